/- RanksQuiet. -/
import Derived.Test.YtgiifedljebclaaRKnown
import Derived.Deep.DeepCutAuto
namespace Go.Proofs.Ytgiifedljebclaa
open Go.RowKit

/-- three sketches side by side -/
structure Trio (w0 w : World) (inv : Nat) (bs bt bu : Nat) (n m : Nat) (es us : List (En Int)) (vs vt vu : Value) : Prop where
  s : Sk w bs inv n es vs
  t : Sk w bt inv n es vt
  u : Sk w bu inv m us vu
  st : bs ≠ bt
  su : bs ≠ bu
  tu : bt ≠ bu
  rst : ∀ k, vs.ownBlock = some k → vt.ownBlock ≠ some k
  rsu : ∀ k, vs.ownBlock = some k → vu.ownBlock ≠ some k
  rtu : ∀ k, vt.ownBlock = some k → vu.ownBlock ≠ some k
  kept : Kept [] w0 w
  ns : w0.heap.size ≤ bs
  nt : w0.heap.size ≤ bt
  nu : w0.heap.size ≤ bu
  os : ∀ k, vs.ownBlock = some k → w0.heap.size ≤ k
  ot : ∀ k, vt.ownBlock = some k → w0.heap.size ≤ k
  ou : ∀ k, vu.ownBlock = some k → w0.heap.size ≤ k

theorem Trio.keep {w0 w w' : World} {inv bs bt bu n m : Nat} {es us : List (En Int)} {vs vt vu : Value} (h : Trio w0 w inv bs bt bu n m es us vs vt vu) (hk : Kept [] w w') : Trio w0 w' inv bs bt bu n m es us vs vt vu :=
  { h with s := h.s.keep hk (by simp) (by simp), t := h.t.keep hk (by simp) (by simp), u := h.u.keep hk (by simp) (by simp), kept := h.kept.trans hk (by simp) }

/-- what an Add to one sketch leaves of another -/
theorem other_kept {w w' : World} {b c inv n inv2 n2 : Nat} {es fs : List (En Int)} {v u : Value} (h : Sk w c inv2 n2 fs u) (h1 : Sk w b inv n es v) (hbc : b ≠ c) (hr : ∀ k, v.ownBlock = some k → u.ownBlock ≠ some k)
    (hk : Kept (b :: v.ownBlock.toList) w w') : Sk w' c inv2 n2 fs u := by
  refine h.keep hk (fun hm => ?_) (fun k hu hm => ?_)
  · rcases List.mem_cons.1 hm with e | hm
    · exact hbc e.symm
    · exact h1.apart h.blk (by simpa using hm)
  · rcases List.mem_cons.1 hm with e | hm
    · subst e; exact h.apart h1.blk hu
    · exact hr k (by simpa using hm) hu
/-- blocks of rows stay apart -/
theorem own_lt_size {w : World} {b inv n : Nat} {es : List (En Int)} {v : Value} (h : Sk w b inv n es v) {k : Nat} (hk : v.ownBlock = some k) : k < w.heap.size := (h.row.lt k hk).2
theorem apart_new {w : World} {b inv n : Nat} {fs : List (En Int)} {v v' u : Value} (h : Sk w b inv n fs u) (hr : ∀ k, v.ownBlock = some k → u.ownBlock ≠ some k) (hn : v'.ownBlock = v.ownBlock ∨ ∃ k, v'.ownBlock = some k ∧ w.heap.size ≤ k) : ∀ k, v'.ownBlock = some k → u.ownBlock ≠ some k := by
  intro k hk
  rcases hn with e | ⟨j, e, hj⟩
  · rw [e] at hk; exact hr k hk
  · rw [e] at hk; cases hk
    intro hu
    have := own_lt_size h hu
    omega
theorem grow_new {w0 w : World} {v v' : Value} (hk : Kept [] w0 w) (ho : ∀ k, v.ownBlock = some k → w0.heap.size ≤ k) (hn : v'.ownBlock = v.ownBlock ∨ ∃ k, v'.ownBlock = some k ∧ w.heap.size ≤ k) : ∀ k, v'.ownBlock = some k → w0.heap.size ≤ k := by
  intro k h
  rcases hn with e | ⟨j, e, hj⟩
  · rw [e] at h; exact ho k h
  · rw [e] at h; cases h; exact Nat.le_trans hk.size hj
theorem fresh {w0 w w' : World} {b : Nat} {v : Value} (hk : Kept [] w0 w) (hb : w0.heap.size ≤ b) (ho : ∀ k, v.ownBlock = some k → w0.heap.size ≤ k) (h : Kept (b :: v.ownBlock.toList) w w') : Kept [] w0 w' :=
  hk.trans h (fun x hx => by
    rcases List.mem_cons.1 hx with rfl | hx
    · exact Or.inr hb
    · exact Or.inr (ho x (by simpa using hx)))

theorem Trio.addS {w0 w w' : World} {inv bs bt bu n m : Nat} {es us fs : List (En Int)} {vs vt vu v' : Value} (h : Trio w0 w inv bs bt bu n m es us vs vt vu) (hk : Kept (bs :: vs.ownBlock.toList) w w') (hn : v'.ownBlock = vs.ownBlock ∨ ∃ k, v'.ownBlock = some k ∧ w.heap.size ≤ k) (_hs : Sk w' bs inv (n + 1) fs v') :
    Sk w' bt inv n es vt ∧ Sk w' bu inv m us vu ∧ (∀ k, v'.ownBlock = some k → vt.ownBlock ≠ some k) ∧ (∀ k, v'.ownBlock = some k → vu.ownBlock ≠ some k) ∧ Kept [] w0 w' ∧ ∀ k, v'.ownBlock = some k → w0.heap.size ≤ k :=
  ⟨other_kept h.t h.s h.st h.rst hk, other_kept h.u h.s h.su h.rsu hk, apart_new h.t h.rst hn, apart_new h.u h.rsu hn, fresh h.kept h.ns h.os hk, grow_new h.kept h.os hn⟩

/-- one value into both of the first two -/
theorem Trio.both {w0 w w1 w2 : World} {inv bs bt bu n m : Nat} {es us fs : List (En Int)} {vs vt vu v1 v2 : Value} (h : Trio w0 w inv bs bt bu n m es us vs vt vu)
    (hk : Kept (bs :: vs.ownBlock.toList) w w1) (hn : v1.ownBlock = vs.ownBlock ∨ ∃ k, v1.ownBlock = some k ∧ w.heap.size ≤ k) (hs : Sk w1 bs inv (n + 1) fs v1)
    (hk2 : Kept (bt :: vt.ownBlock.toList) w1 w2) (hn2 : v2.ownBlock = vt.ownBlock ∨ ∃ k, v2.ownBlock = some k ∧ w1.heap.size ≤ k) (hs2 : Sk w2 bt inv (n + 1) fs v2) :
    Trio w0 w2 inv bs bt bu (n + 1) m fs us v1 v2 vu := by
  obtain ⟨t1, u1, a1, a2, k1, o1⟩ := h.addS hk hn hs
  have r1 : ∀ k, vt.ownBlock = some k → v1.ownBlock ≠ some k := fun k h1 h2 => a1 k h2 h1
  refine ⟨other_kept hs t1 (fun e => h.st e.symm) r1 hk2, hs2, other_kept u1 t1 h.tu h.rtu hk2, h.st, h.su, h.tu, ?_, a2, apart_new u1 h.rtu hn2, fresh k1 h.nt h.ot hk2, h.ns, h.nt, h.nu, o1, grow_new k1 h.ot hn2, h.ou⟩
  intro k h1 h2
  exact apart_new hs r1 hn2 k h2 h1
theorem Trio.addU {w0 w w1 : World} {inv bs bt bu n m : Nat} {es us fs : List (En Int)} {vs vt vu v1 : Value} (h : Trio w0 w inv bs bt bu n m es us vs vt vu)
    (hk : Kept (bu :: vu.ownBlock.toList) w w1) (hn : v1.ownBlock = vu.ownBlock ∨ ∃ k, v1.ownBlock = some k ∧ w.heap.size ≤ k) (hs : Sk w1 bu inv (m + 1) fs v1) :
    Trio w0 w1 inv bs bt bu n (m + 1) es fs vs vt v1 := by
  have r1 : ∀ k, vu.ownBlock = some k → vs.ownBlock ≠ some k := fun k h1 h2 => h.rsu k h2 h1
  have r2 : ∀ k, vu.ownBlock = some k → vt.ownBlock ≠ some k := fun k h1 h2 => h.rtu k h2 h1
  refine ⟨other_kept h.s h.u (fun e => h.su e.symm) r1 hk, other_kept h.t h.u (fun e => h.tu e.symm) r2 hk, hs, h.st, h.su, h.tu, h.rst, ?_, ?_, fresh h.kept h.nu h.ou hk, h.ns, h.nt, h.nu, h.os, h.ot, grow_new h.kept h.ou hn⟩
  · intro k h1 h2; exact apart_new h.s r1 hn k h2 h1
  · intro k h1 h2; exact apart_new h.t r2 hn k h2 h1

theorem query_ask {w : World} {b inv n : Nat} {es : List (En Int)} {v : Value} (hs : Sk w b inv n es v) (hf : Fit gtV n es) (hn : n ≤ 549755813888) (r : Int) :
    Calls Try.prog 19 #[.pointer (some ⟨b, 0, none⟩), .int .i64 r] w fun e w' => ∃ x y, e = .returned (.tuple #[.int .i64 x, .int .i64 y]) ∧ Kept [] w w' := by
  by_cases h : 1 ≤ r ∧ r ≤ n
  · obtain ⟨k, rfl⟩ : ∃ k : Nat, r = (k : Int) := ⟨r.toNat, by omega⟩
    exact (query_any hs hf hn k (by omega) (by omega)).mono fun e w' ⟨h1, h3⟩ => ⟨_, _, h1, h3⟩
  · exact (query_none hs r (by omega)).mono fun e w' ⟨h1, h3⟩ => ⟨_, _, h1, h3⟩

set_option maxHeartbeats 2000000 in
set_option maxRecDepth 100000 in
theorem quiet_any {w : World} {va vv : Value} {asked l : List Int} {inv : Nat} (ha : SeesI w va asked) (hv : SeesI w vv l) (h2 : 2 ≤ inv) (hi : inv ≤ 1024) (hl : l.length ≤ 549755813000) (hla : asked.length ≤ 549755813000) :
    Calls Try.prog 8 #[.int .i64 (inv : Int), vv, va] w fun e w' => e = .returned (.bool true) ∧ Kept [] w w' := by
  have HA := hide ha
  have HV := hide hv
  have HKN := hide (known_any (w := w))
  have hcan : decide ((2 : Int) ≤ (inv : Int) ∧ (inv : Int) ≤ 1024) = true := by simp; omega
  have HC := hide (fun w => can_any (w := w) (inv : Int))
  rw [hcan] at HC
  have HN := hide (fun w => new_yes (w := w) h2 hi)
  obtain ⟨pv, cv, rfl, hc1, hc2, -⟩ := hv
  obtain ⟨pa, ca, rfl, hc3, hc4, -⟩ := ha
  clear hcan
  generalize hL : l.length = L at *
  have HL := hide hL
  generalize hM : asked.length = M at *
  have HM := hide hM
  clear hL hM
  have HNa := HN
  have HNb := HN
  have HNc := HN
  clear HN
  go_enter Try.func8, Try.ntmps8
  go_wp2_with (first
    | (go_at_call 38; refine (unhide HKN).mono ?_; rintro e w1 ⟨rfl, hk1⟩; have HK1 := hide hk1; clear hk1 HKN)
    | (go_at_call 40; refine (unhide HC _).mono ?_; rintro e w3 ⟨rfl, hq⟩; have hq' := hq.symm; subst hq')
    | (go_at_call 9; refine (unhide HNa _).mono ?_; rintro e wA ⟨rfl, hsA, hkA⟩; have HSA := hide hsA; have HKA := hide hkA; clear HNa hsA hkA)
    | (go_at_call 9; refine (unhide HNb _).mono ?_; rintro e wB ⟨rfl, hsB, hkB⟩; have HSB := hide hsB; have HKB := hide hkB; clear HNb hsB hkB)
    | (go_at_call 9; refine (unhide HNc _).mono ?_; rintro e wC ⟨rfl, hsC, hkC⟩; have HSC := hide hsC; have HKC := hide hkC; clear HNc hsC hkC))
  have HT : Hid (Trio w wC inv w1.heap.size wA.heap.size wB.heap.size 0 0 [] [] (.slice none 0 0) (.slice none 0 0) (.slice none 0 0)) := by
    have s1 := (unhide HSA).blk.lt
    have s2 := (unhide HSB).blk.lt
    have s3 := (unhide HK1).size
    exact ⟨((unhide HSA).keep (unhide HKB) (by simp) (by simp)).keep (unhide HKC) (by simp) (by simp), (unhide HSB).keep (unhide HKC) (by simp) (by simp), unhide HSC, by omega, by omega, by omega, by simp [Value.ownBlock], by simp [Value.ownBlock], by simp [Value.ownBlock],
      (((unhide HK1).trans (unhide HKA) (by simp)).trans (unhide HKB) (by simp)).trans (unhide HKC) (by simp), by omega, by omega, by omega, by simp [Value.ownBlock], by simp [Value.ownBlock], by simp [Value.ownBlock]⟩
  have hbB : w1.heap.size < wA.heap.size := (unhide HSA).blk.lt
  generalize w1.heap.size = bs at *
  generalize wA.heap.size = bt at *
  generalize wB.heap.size = bu at *
  clear HSA HKA HSB HKB HSC HKC HK1 hbB HC
  have HN0 := hide (fun w => num_any (w := w) 0)
  go_loopw [10] (fun s10 wr => ∃ k : Nat, k ≤ L ∧ s10 = .int .i64 k ∧ ∃ m us vs vt vu, Trio w wr inv bs bt bu k m (foldE gtV inv 0 [] (l.take k)) us vs vt vu ∧ Fit gtV m us ∧ m ≤ k) (fun s10 _ => L - (intOf s10).toNat)
  case atStart => exact ⟨0, by omega, rfl, 0, [], _, _, _, unhide HT, fit_nil _, by omega⟩
  case round =>
    obtain ⟨k, hk, rfl, m, us, vs, vt, vu, htr, hfu, hmk⟩ := hrel
    have HTR := hide htr
    have HFU := hide hfu
    have HFT : Hid (Fit gtV k (foldE gtV inv 0 [] (l.take k))) := by
      have := fit_fold behindV (inv := inv) (l.take k) (fit_nil gtV)
      rwa [Nat.zero_add, List.length_take, Nat.min_eq_left (by rw [unhide HL]; exact hk)] at this
    clear htr hfu HT
    by_cases hkl : k < L
    · have t1 : ((k : Int) < (L : Int)) = True := by simp; omega
      obtain ⟨a', c', hv, -, -, h4⟩ := (unhide HV).kept (unhide HTR).kept (Or.inr (by simp))
      have hv1 : a' = pv := by injection hv with h1; exact h1.symm
      subst hv1
      obtain ⟨bv, ov, hpv, -⟩ := at_int (k := k) (unhide HL) h4 hkl
      subst hpv
      clear hv h4
      have HCV : Hid (∀ W, Kept [] w W → W.cell? ⟨bv, ov + k, none⟩ = some (.int .i64 (l.getD k 0))) := by
        intro W hk2
        obtain ⟨a', c', hv, -, -, h4⟩ := (unhide HV).kept hk2 (Or.inr (by simp))
        have hv1 : a' = some ⟨bv, ov, none⟩ := by injection hv with h1; exact h1.symm
        subst hv1
        obtain ⟨bv', ov', hpv, hcv'⟩ := at_int (k := k) (unhide HL) h4 hkl
        cases hpv
        exact hcv'
      have HST : Hid (foldE gtV inv 0 [] (l.take (k + 1)) = stepE gtV inv k (foldE gtV inv 0 [] (l.take k)) (l.getD k 0)) := by
        have hkl' : k < l.length := by rw [unhide HL]; exact hkl
        have e : l.take (k + 1) = l.take k ++ [l.getD k 0] := by
          rw [List.take_add_one, List.getElem?_eq_getElem hkl', Option.toList_some]
          simp [List.getD, List.getElem?_eq_getElem hkl']
        have e2 : (l.take k).length = k := by simp; omega
        exact (show _ = _ by rw [e, foldE_snoc, e2, Nat.zero_add])
      generalize l.getD k 0 = x at *
      generalize foldE gtV inv 0 [] (l.take k) = es at *
      generalize hE1 : foldE gtV inv 0 [] (l.take (k + 1)) = es1 at *
      have HE1 : Hid (es1 = foldE gtV inv 0 [] (l.take (k + 1))) := hE1.symm
      clear hE1
      have HF1 : Hid (Fit gtV (k + 1) es1) := by
        have := fit_step (inv := inv) behindV (unhide HFT) x
        rwa [← unhide HST] at this
      have HA1 := hide (add_any (unhide HTR).s (unhide HFT) h2 hi (by omega) x)
      rw [← unhide HST] at HA1
      have HA2 : Hid (∀ W v', Sk W bt inv k es v' → Calls Try.prog 17 #[.pointer (some ⟨bt, 0, none⟩), .int .i64 x] W fun e w' => e = .returned (.int .i64 0) ∧ ∃ v'', Sk w' bt inv (k + 1) es1 v'' ∧ Kept (bt :: v'.ownBlock.toList) W w' ∧ (v''.ownBlock = v'.ownBlock ∨ ∃ j, v''.ownBlock = some j ∧ W.heap.size ≤ j)) := by
        intro W v' hs
        have := add_any hs (unhide HFT) h2 hi (by omega) x
        rwa [← unhide HST] at this
      have hcx := unhide HCV _ (unhide HTR).kept
      by_cases hkM : k < M
      · have t3 : ((k : Int) < (M : Int)) = True := by simp; omega
        obtain ⟨a', c', hv, -, -, h4⟩ := (unhide HA).kept (unhide HTR).kept (Or.inr (by simp))
        have hv1 : a' = pa := by injection hv with h1; exact h1.symm
        subst hv1
        obtain ⟨ba, oa, hpa, -⟩ := at_int (k := k) (unhide HM) h4 hkM
        subst hpa
        clear hv h4
        have HCA : Hid (∀ W, Kept [] w W → W.cell? ⟨ba, oa + k, none⟩ = some (.int .i64 (asked.getD k 0))) := by
          intro W hk2
          obtain ⟨a', c', hv, -, -, h4⟩ := (unhide HA).kept hk2 (Or.inr (by simp))
          have hv1 : a' = some ⟨ba, oa, none⟩ := by injection hv with h1; exact h1.symm
          subst hv1
          obtain ⟨bv', ov', hpv, hcv'⟩ := at_int (k := k) (unhide HM) h4 hkM
          cases hpv
          exact hcv'
        generalize asked.getD k 0 = y at *
        go_wp2_with (first
          | (go_at_call 17; refine (unhide HA1).mono ?_; rintro e w5 ⟨rfl, v5, hs5, hk5, hb5⟩; have hxx := (unhide HTR).addS hk5 hb5 hs5; have hcx5 := unhide HCV _ hxx.2.2.2.2.1; have HT5 := hide hxx.1; have HS5 := hide hs5; have HK5 := hide hk5; have HB5 := hide hb5; clear HA1 hs5 hk5 hb5 hxx)
          | (go_at_call 17; refine (unhide HA2 _ _ (unhide HT5)).mono ?_; rintro e w6 ⟨rfl, v6, hs6, hk6, hb6⟩; have HT6 := hide ((unhide HTR).both (unhide HK5) (unhide HB5) (unhide HS5) hk6 hb6 hs6); have HCO := hide (count_any (unhide HT6).s); have hay := unhide HCA _ (unhide HT6).kept; clear HA2 hs6 hk6 hb6)
          | (go_at_call 16; refine (unhide HN0 _).mono ?_; rintro e w7 ⟨rfl, hq⟩; have hq' := hq.symm; subst hq')
          | (go_at_call 12; refine (unhide HCO).mono ?_; rintro e w7 ⟨rfl, hq⟩; have hq' := hq.symm; subst hq'; clear HCO)
          | (go_at_call 19; refine (query_ask (unhide HT6).s (unhide HF1) (by omega) y).mono ?_; rintro e w8 ⟨q1, q2, rfl, hk8⟩; have HT8 := hide ((unhide HT6).keep hk8); have hay8 := unhide HCA _ (unhide HT8).kept; clear hk8)
          | (go_at_call 21; refine (below_any (unhide HT8).s (unhide HF1) (by omega) y).mono ?_; rintro e w9 ⟨rfl, hk9⟩; have HT9 := hide ((unhide HT8).keep hk9); have hay9 := unhide HCA _ (unhide HT9).kept; clear hk9)
          | (go_at_call 17; refine (add_any (unhide HT9).u (unhide HFU) h2 hi (by omega) y).mono ?_; rintro e w10 ⟨rfl, v10, hs10, hk10, hb10⟩; have HT10 := hide ((unhide HT9).addU hk10 hb10 hs10); clear hs10 hk10 hb10))
        exact ⟨⟨k + 1, by omega, by simp, m + 1, stepE gtV inv m us y, _, _, _, unhide HE1 ▸ unhide HT10, fit_step behindV (unhide HFU) y, by omega⟩, by simp [intOf]; omega⟩
      · have t3 : ((k : Int) < (M : Int)) = False := by simp; omega
        go_wp2_with (first
          | (go_at_call 17; refine (unhide HA1).mono ?_; rintro e w5 ⟨rfl, v5, hs5, hk5, hb5⟩; have hxx := (unhide HTR).addS hk5 hb5 hs5; have hcx5 := unhide HCV _ hxx.2.2.2.2.1; have HT5 := hide hxx.1; have HS5 := hide hs5; have HK5 := hide hk5; have HB5 := hide hb5; clear HA1 hs5 hk5 hb5 hxx)
          | (go_at_call 17; refine (unhide HA2 _ _ (unhide HT5)).mono ?_; rintro e w6 ⟨rfl, v6, hs6, hk6, hb6⟩; have HT6 := hide ((unhide HTR).both (unhide HK5) (unhide HB5) (unhide HS5) hk6 hb6 hs6); have HCO := hide (count_any (unhide HT6).s); clear HA2 hs6 hk6 hb6)
          | (go_at_call 16; refine (unhide HN0 _).mono ?_; rintro e w7 ⟨rfl, hq⟩; have hq' := hq.symm; subst hq')
          | (go_at_call 12; refine (unhide HCO).mono ?_; rintro e w7 ⟨rfl, hq⟩; have hq' := hq.symm; subst hq'; clear HCO))
        exact ⟨⟨k + 1, by omega, by simp, m, us, _, _, _, unhide HE1 ▸ unhide HT6, unhide HFU, by omega⟩, by simp [intOf]; omega⟩
    · obtain rfl : k = L := by omega
      have t1 : ((k : Int) < (k : Int)) = False := by simp
      have he : l.take k = l := List.take_of_length_le (by rw [unhide HL]; omega)
      rw [he] at HTR HFT
      clear he
      generalize foldE gtV inv 0 [] l = es at *
      have HSI : Hid (∀ p, p = bs ∨ p = bt → Calls Try.prog 14 #[.pointer (some ⟨p, 0, none⟩)] wr fun e w' => e = .returned (.int .i64 (es.length : Int)) ∧ w' = wr) := by
        intro p hp
        rcases hp with rfl | rfl
        · exact size_any (unhide HTR).s
        · exact size_any (unhide HTR).t
      have HCO : Hid (∀ p, p = bs ∨ p = bt → Calls Try.prog 12 #[.pointer (some ⟨p, 0, none⟩)] wr fun e w' => e = .returned (.int .i64 (k : Int)) ∧ w' = wr) := by
        intro p hp
        rcases hp with rfl | rfl
        · exact count_any (unhide HTR).s
        · exact count_any (unhide HTR).t
      go_wp2_with (first
        | (go_at_call 14; refine (unhide HSI _ (by first | exact Or.inl rfl | exact Or.inr rfl)).mono ?_; rintro e w7 ⟨rfl, hq⟩; have hq' := hq.symm; subst hq')
        | (go_at_call 12; refine (unhide HCO _ (by first | exact Or.inl rfl | exact Or.inr rfl)).mono ?_; rintro e w7 ⟨rfl, hq⟩; have hq' := hq.symm; subst hq'))
      refine world_at (R := fun W => Trio w W inv bs bt bu k m es us vs vt vu) (unhide HTR) ?_
      clear HTR HSI HCO
      intro W0 htr
      have HTR := hide htr
      clear htr
      have HQ : Hid (∀ p, p = bs ∨ p = bt → ∀ W, Kept [] W0 W → ∀ r : Nat, 1 ≤ r → r ≤ k → Calls Try.prog 19 #[.pointer (some ⟨p, 0, none⟩), .int .i64 (r : Int)] W fun e w' => e = .returned (.tuple #[.int .i64 (nearE 0 r es), .int .i64 0]) ∧ Kept [] W w') := by
        intro p hp W hk r h1 h3
        rcases hp with rfl | rfl
        · exact query_any ((unhide HTR).s.keep hk (by simp) (by simp)) (unhide HFT) (by omega) r h1 h3
        · exact query_any ((unhide HTR).t.keep hk (by simp) (by simp)) (unhide HFT) (by omega) r h1 h3
      have HBE : Hid (∀ p, p = bs ∨ p = bt → ∀ W, Kept [] W0 W → ∀ x, Calls Try.prog 21 #[.pointer (some ⟨p, 0, none⟩), .int .i64 x] W fun e w' => e = .returned (.tuple #[.int .i64 ((belowE gtV k es x).1 : Nat), .int .i64 ((belowE gtV k es x).2 : Nat)]) ∧ Kept [] W w') := by
        intro p hp W hk x
        rcases hp with rfl | rfl
        · exact below_any ((unhide HTR).s.keep hk (by simp) (by simp)) (unhide HFT) (by omega) x
        · exact below_any ((unhide HTR).t.keep hk (by simp) (by simp)) (unhide HFT) (by omega) x
      go_loopw [11] (fun s11 wi => ∃ r : Nat, 1 ≤ r ∧ r ≤ k + 1 ∧ s11 = .int .i64 r ∧ Kept [] W0 wi) (fun s11 _ => k + 1 - (intOf s11).toNat)
      case atStart => exact ⟨1, by omega, by omega, rfl, Kept.refl _ _⟩
      case round =>
        obtain ⟨r, hr1, hr2, rfl, hki⟩ := hrel
        have HKI := hide hki
        clear hki
        by_cases hrk : r ≤ k
        · have t4 : ((r : Int) ≤ (k : Int)) = True := by simp; omega
          have HQa := hide (unhide HQ bs (Or.inl rfl) _ (unhide HKI) r hr1 hrk)
          have HQb := hide (fun W hk => unhide HQ bt (Or.inr rfl) W hk r hr1 hrk)
          generalize nearE 0 r es = x at *
          go_wp2_with (first
            | (go_at_call 19; refine (unhide HQa).mono ?_; rintro e w7 ⟨rfl, hq⟩; have HK7 := hide ((unhide HKI).trans hq (by simp)); clear hq HQa)
            | (go_at_call 19; refine (unhide HQb _ (unhide HK7)).mono ?_; rintro e w8 ⟨rfl, hq⟩; have HK8 := hide ((unhide HK7).trans hq (by simp)); clear hq HQb)
            | (go_at_call 16; refine (unhide HN0 _).mono ?_; rintro e w9 ⟨rfl, hq⟩; have hq' := hq.symm; subst hq'))
          exact ⟨⟨r + 1, by omega, by omega, by simp, unhide HK8⟩, by simp [intOf]; omega⟩
        · obtain rfl : r = k + 1 := by omega
          have t4 : (((k + 1 : Nat) : Int) ≤ (k : Int)) = False := by simp; omega
          go_wp2_with fail
          go_loopw [16] (fun s16 wj => ∃ i : Nat, i ≤ M ∧ s16 = .int .i64 i ∧ Kept [] W0 wj) (fun s16 _ => M - (intOf s16).toNat)
          case atStart => exact ⟨0, by omega, rfl, unhide HKI⟩
          case round =>
            obtain ⟨i, hi5, rfl, hkj⟩ := hrel
            have HKJ := hide hkj
            clear hkj
            by_cases hiM : i < M
            · have t5 : ((i : Int) < (M : Int)) = True := by simp; omega
              obtain ⟨a', c', hv, -, -, h4⟩ := (unhide HA).kept (unhide HTR).kept (Or.inr (by simp))
              have hv1 : a' = pa := by injection hv with h1; exact h1.symm
              subst hv1
              obtain ⟨ba, oa, hpa, -⟩ := at_int (k := i) (unhide HM) h4 hiM
              subst hpa
              clear hv h4
              have HCA : Hid (∀ W, Kept [] W0 W → W.cell? ⟨ba, oa + i, none⟩ = some (.int .i64 (asked.getD i 0))) := by
                intro W hk2
                obtain ⟨a', c', hv, -, -, h4⟩ := (unhide HA).kept ((unhide HTR).kept.trans hk2 (by simp)) (Or.inr (by simp))
                have hv1 : a' = some ⟨ba, oa, none⟩ := by injection hv with h1; exact h1.symm
                subst hv1
                obtain ⟨bv', ov', hpv, hcv'⟩ := at_int (k := i) (unhide HM) h4 hiM
                cases hpv
                exact hcv'
              generalize asked.getD i 0 = y at *
              have hay := unhide HCA _ (unhide HKJ)
              have HBa := hide (unhide HBE bs (Or.inl rfl) _ (unhide HKJ) y)
              have HBb := hide (fun W hk => unhide HBE bt (Or.inr rfl) W hk y)
              generalize (belowE gtV k es y).1 = lo at *
              generalize (belowE gtV k es y).2 = hi9 at *
              go_wp2_with (first
                | (go_at_call 21; refine (unhide HBa).mono ?_; rintro e w7 ⟨rfl, hq⟩; have HK7 := hide ((unhide HKJ).trans hq (by simp)); have hay7 := unhide HCA _ (unhide HK7); clear hq HBa)
                | (go_at_call 21; refine (unhide HBb _ (unhide HK7)).mono ?_; rintro e w8 ⟨rfl, hq⟩; have HK8 := hide ((unhide HK7).trans hq (by simp)); clear hq HBb))
              refine ⟨?_, by simp [intOf]; omega⟩
              (repeat apply Exists.intro)
              refine ⟨?_, rfl⟩
              exact ⟨i + 1, by omega, by simp, unhide HK8⟩
            · obtain rfl : i = M := by omega
              have t5 : ((i : Int) < (i : Int)) = False := by simp
              go_wp2_with fail
              go_ret
              exact ⟨rfl, (unhide HTR).kept.trans (unhide HKJ) (by simp)⟩

set_option maxHeartbeats 1000000 in
set_option maxRecDepth 100000 in
theorem quiet_no {w : World} {va vv : Value} {asked l : List Int} {inv : Int} (ha : SeesI w va asked) (hv : SeesI w vv l) (h : inv < 2 ∨ 1024 < inv) :
    Calls Try.prog 8 #[.int .i64 inv, vv, va] w fun e w' => e = .returned (.bool true) ∧ Kept [] w w' := by
  have HKN := hide (known_any (w := w))
  have HN := hide (fun w => new_no (w := w) h)
  have hcan : decide ((2 : Int) ≤ inv ∧ inv ≤ 1024) = false := by simp; omega
  have HC := hide (fun w => can_any (w := w) inv)
  rw [hcan] at HC
  obtain ⟨pv, cv, rfl, hc1, hc2, -⟩ := hv
  obtain ⟨pa, ca, rfl, hc3, hc4, -⟩ := ha
  clear hcan h
  go_enter Try.func8, Try.ntmps8
  go_wp2_with (first
    | (go_at_call 38; refine (unhide HKN).mono ?_; rintro e w1 ⟨rfl, hk1⟩; have HK1 := hide hk1; clear hk1 HKN)
    | (go_at_call 9; refine (unhide HN _).mono ?_; rintro e w2 ⟨rfl, hq⟩; have hq' := hq.symm; subst hq')
    | (go_at_call 40; refine (unhide HC _).mono ?_; rintro e w3 ⟨rfl, hq⟩; have hq' := hq.symm; subst hq'))
  go_ret
  exact ⟨rfl, unhide HK1⟩
end Go.Proofs.Ytgiifedljebclaa
