/- RanksOrder. -/
import Derived.Test.YtgiifedljebclabRByt
import Derived.Test.YtgiifedljebclabRMap
import Derived.Test.YtgiifedljebclabRKnown
import Derived.Test.YtgiifedljebclabBAdd
import Derived.Test.YtgiifedljebclabBAsk
import Derived.Test.YtgiifedljebclabSAdd
import Derived.Test.YtgiifedljebclabSAsk
import Derived.Deep.DeepCutAuto
import Derived.Laws.IdiomStrings
namespace Go.Proofs.Ytgiifedljebclab
open Go.RowKit

/-- a text of one byte -/
def one (x : Int) : ByteArray := ⟨#[UInt8.ofNat x.toNat]⟩
def isByte (x : Int) : Prop := 0 ≤ x ∧ x < 256
theorem one_list (x : Int) : (one x).toList = [UInt8.ofNat x.toNat] := by rw [Lib.toList_data]; rfl
theorem one_gt (a b : Int) (ha : isByte a) (hb : isByte b) : str.gtV (one a) (one b) = byt.gtV a b := by
  unfold str.gtV byt.gtV
  rw [one_list, one_list]
  obtain ⟨m, rfl⟩ : ∃ m : Nat, a = m := ⟨a.toNat, by unfold isByte at ha; omega⟩
  obtain ⟨n, rfl⟩ : ∃ n : Nat, b = n := ⟨b.toNat, by unfold isByte at hb; omega⟩
  have hm : m < 256 := by unfold isByte at ha; omega
  have hn : n < 256 := by unfold isByte at hb; omega
  simp only [Op.bytesLess, Int.toNat_natCast, Bool.and_false, Bool.or_false]
  apply decide_eq_decide.2
  rw [UInt8.lt_iff_toNat_lt, UInt8.toNat_ofNat', UInt8.toNat_ofNat']
  omega

theorem conv_one {m : Nat} (hm : m < 256) (W : World) : (convert 22 9 (.slice (some ⟨W.heap.size, 0, none⟩) 1 1)).run Try.prog (W.alloc (.cells #[.int .u8 (m : Int)] 5)) = .ok (.string (one m)) (W.alloc (.cells #[.int .u8 (m : Int)] 5)) := by
  have h := run_convert_bytes_back (P := Try.prog) (W.alloc (.cells #[.int .u8 (m : Int)] 5)) 22 9 5 ⟨W.heap.size, 0, none⟩ 1 [UInt8.ofNat m] Try.underlying22 Try.underlying5 Try.underlying9 (fun j hj => by
    have hj0 : j = 0 := by simp at hj; omega
    subst hj0
    have hadd : (⟨W.heap.size, 0, none⟩ : Addr).add 0 = ⟨W.heap.size, 0, none⟩ := by simp [Addr.add]
    rw [hadd, (Blk.new W _ _).cell]
    simp only [List.getElem_cons_zero, UInt8.toNat_ofNat']
    rw [Nat.mod_eq_of_lt hm]
    rfl)
  exact h

structure Duo (w0 w : World) (inv bs bt n : Nat) (es : List (En Int)) (ts : List (En ByteArray)) (vs vt : Value) : Prop where
  s : byt.Sk w bs inv n es vs
  t : str.Sk w bt inv n ts vt
  kept : Kept [] w0 w
  ns : w0.heap.size ≤ bs
  nt : w0.heap.size ≤ bt
  os : ∀ k, vs.ownBlock = some k → w0.heap.size ≤ k
  ot : ∀ k, vt.ownBlock = some k → w0.heap.size ≤ k
theorem Duo.keep {w0 w w' : World} {inv bs bt n : Nat} {es : List (En Int)} {ts : List (En ByteArray)} {vs vt : Value} (h : Duo w0 w inv bs bt n es ts vs vt) (hk : Kept [] w w') : Duo w0 w' inv bs bt n es ts vs vt :=
  { h with s := h.s.keep hk (by simp) (by simp), t := h.t.keep hk (by simp) (by simp), kept := h.kept.trans hk (by simp) }
theorem own_blk {w : World} {e : TypeId} {s n : Nat} {v : Value} {xs : List Value} (h : w.ownsRow 0 e s v n xs) {k : Nat} (hk : v.ownBlock = some k) : ∃ cur, Blk w k cur e := by
  rcases h.2 with ⟨h1, _⟩ | ⟨g, cap, cur, hv, _, hg, _⟩
  · rw [h1] at hk; cases hk
  · rw [hv] at hk; cases hk; exact ⟨cur, hg⟩
theorem blk_ty {w : World} {b : Nat} {c d : Array Value} {t u : TypeId} (h : Blk w b c t) (k : Blk w b d u) : t = u := by
  unfold Blk at h k; rw [h] at k; cases k; rfl
theorem keep_t {w w' : World} {inv bs bt n m : Nat} {es : List (En Int)} {ts : List (En ByteArray)} {vs vt : Value} (s : byt.Sk w bs inv n es vs) (t : str.Sk w bt inv m ts vt) (hk : Kept (bs :: vs.ownBlock.toList) w w') : str.Sk w' bt inv m ts vt := by
  refine t.keep hk (fun hm => ?_) (fun k hu hm => ?_)
  · rcases List.mem_cons.1 hm with e | hm
    · subst e; exact absurd (blk_ty s.blk t.blk) (by decide)
    · obtain ⟨cur, hc⟩ := own_blk s.row (k := bt) (by simpa using hm)
      exact absurd (blk_ty hc t.blk) (by decide)
  · obtain ⟨cur, hc⟩ := own_blk t.row hu
    rcases List.mem_cons.1 hm with e | hm
    · subst e; exact absurd (blk_ty s.blk hc) (by decide)
    · obtain ⟨cur2, hc2⟩ := own_blk s.row (k := k) (by simpa using hm)
      exact absurd (blk_ty hc2 hc) (by decide)
theorem keep_s {w w' : World} {inv bs bt n m : Nat} {es : List (En Int)} {ts : List (En ByteArray)} {vs vt : Value} (s : byt.Sk w bs inv n es vs) (t : str.Sk w bt inv m ts vt) (hk : Kept (bt :: vt.ownBlock.toList) w w') : byt.Sk w' bs inv n es vs := by
  refine s.keep hk (fun hm => ?_) (fun k hu hm => ?_)
  · rcases List.mem_cons.1 hm with e | hm
    · subst e; exact absurd (blk_ty s.blk t.blk) (by decide)
    · obtain ⟨cur, hc⟩ := own_blk t.row (k := bs) (by simpa using hm)
      exact absurd (blk_ty hc s.blk) (by decide)
  · obtain ⟨cur, hc⟩ := own_blk s.row hu
    rcases List.mem_cons.1 hm with e | hm
    · subst e; exact absurd (blk_ty t.blk hc) (by decide)
    · obtain ⟨cur2, hc2⟩ := own_blk t.row (k := k) (by simpa using hm)
      exact absurd (blk_ty hc2 hc) (by decide)
theorem grow_new {w0 w : World} {v v' : Value} (hk : Kept [] w0 w) (ho : ∀ k, v.ownBlock = some k → w0.heap.size ≤ k) (hn : v'.ownBlock = v.ownBlock ∨ ∃ k, v'.ownBlock = some k ∧ w.heap.size ≤ k) : ∀ k, v'.ownBlock = some k → w0.heap.size ≤ k := by
  intro k h
  rcases hn with e | ⟨j, e, hj⟩
  · rw [e] at h; exact ho k h
  · rw [e] at h; cases h; exact Nat.le_trans hk.size hj
theorem fresh {w0 w w' : World} {b : Nat} {v : Value} (hk : Kept [] w0 w) (hb : w0.heap.size ≤ b) (ho : ∀ k, v.ownBlock = some k → w0.heap.size ≤ k) (h : Kept (b :: v.ownBlock.toList) w w') : Kept [] w0 w' :=
  hk.trans h (fun x hx => by
    rcases List.mem_cons.1 hx with rfl | hx
    · exact Or.inr hb
    · exact Or.inr (ho x (by simpa using hx)))

set_option maxHeartbeats 2000000 in
set_option maxRecDepth 100000 in
theorem order_any {w : World} {vv : Value} {l : List Int} {inv : Nat} (hv : SeesU w vv l) (hby : ∀ x ∈ l, isByte x) (h2 : 2 ≤ inv) (hi : inv ≤ 1024) (hl : l.length ≤ 549755813000) :
    Calls Try.prog 3 #[.int .i64 (inv : Int), vv] w fun e w' => e = .returned (.bool true) ∧ Kept [] w w' := by
  have HV := hide hv
  have HBY := hide hby
  have HKN := hide (known_any (w := w))
  have hcan : decide ((2 : Int) ≤ (inv : Int) ∧ (inv : Int) ≤ 1024) = true := by simp; omega
  have HC := hide (fun w => can_any (w := w) (inv : Int))
  rw [hcan] at HC
  have HNa := hide (fun w => byt.new_yes (w := w) h2 hi)
  have HNb := hide (fun w => str.new_yes (w := w) h2 hi)
  obtain ⟨pv, cv, rfl, hc1, hc2, -⟩ := hv
  clear hcan hby
  generalize hL : l.length = L at *
  have HL := hide hL
  clear hL
  go_enter Try.func3, Try.ntmps3
  go_wp2_with (first
    | (go_at_call 4; refine (unhide HKN).mono ?_; rintro e w1 ⟨rfl, hk1⟩; have HK1 := hide hk1; clear hk1 HKN)
    | (go_at_call 5; refine (unhide HC _).mono ?_; rintro e w3 ⟨rfl, hq⟩; have hq' := hq.symm; subst hq')
    | (go_at_call 7; refine (unhide HNa _).mono ?_; rintro e wA ⟨rfl, hsA, hkA⟩; have HSA := hide hsA; have HKA := hide hkA; clear HNa hsA hkA)
    | (go_at_call 6; refine (unhide HNb _).mono ?_; rintro e wB ⟨rfl, hsB, hkB⟩; have HSB := hide hsB; have HKB := hide hkB; clear HNb hsB hkB))
  have HT : Hid (Duo w wB inv w1.heap.size wA.heap.size 0 [] [] (.slice none 0 0) (.slice none 0 0)) := by
    have s1 := (unhide HSA).blk.lt
    have s3 := (unhide HK1).size
    exact ⟨(unhide HSA).keep (unhide HKB) (by simp) (by simp), unhide HSB, ((unhide HK1).trans (unhide HKA) (by simp)).trans (unhide HKB) (by simp), by omega, by omega, by simp [Value.ownBlock], by simp [Value.ownBlock]⟩
  generalize w1.heap.size = bs at *
  generalize wA.heap.size = bt at *
  clear HSA HKA HSB HKB HK1 HC
  have HN0 := hide (fun w => num_any (w := w) 0)
  go_loopw [7] (fun s7 wr => ∃ k : Nat, k ≤ L ∧ s7 = .int .i64 k ∧ ∃ vs vt, Duo w wr inv bs bt k (foldE byt.gtV inv 0 [] (l.take k)) (foldE str.gtV inv 0 [] ((l.take k).map one)) vs vt) (fun s7 _ => L - (intOf s7).toNat)
  case atStart => exact ⟨0, by omega, rfl, _, _, unhide HT⟩
  case round =>
    obtain ⟨k, hk, rfl, vs, vt, htr⟩ := hrel
    have HTR := hide htr
    have HF1 : Hid (Fit byt.gtV k (foldE byt.gtV inv 0 [] (l.take k))) := by
      have := fit_fold byt.behindV (inv := inv) (l.take k) (fit_nil byt.gtV)
      rwa [Nat.zero_add, List.length_take, Nat.min_eq_left (by rw [unhide HL]; exact hk)] at this
    have HF2 : Hid (Fit str.gtV k (foldE str.gtV inv 0 [] ((l.take k).map one))) := by
      have := fit_fold str.behindV (inv := inv) ((l.take k).map one) (fit_nil str.gtV)
      rwa [Nat.zero_add, List.length_map, List.length_take, Nat.min_eq_left (by rw [unhide HL]; exact hk)] at this
    clear htr HT
    by_cases hkl : k < L
    · have t1 : ((k : Int) < (L : Int)) = True := by simp; omega
      obtain ⟨a', c', hv, -, -, h4⟩ := (unhide HV).kept (unhide HTR).kept (Or.inr (by simp))
      have hv1 : a' = pv := by injection hv with h1; exact h1.symm
      subst hv1
      obtain ⟨bv, ov, hpv, -⟩ := at_u8 (k := k) (unhide HL) h4 hkl
      subst hpv
      clear hv h4
      have HCV : Hid (∀ W, Kept [] w W → W.cell? ⟨bv, ov + k, none⟩ = some (.int .u8 (l.getD k 0))) := by
        intro W hk2
        obtain ⟨a', c', hv, -, -, h4⟩ := (unhide HV).kept hk2 (Or.inr (by simp))
        have hv1 : a' = some ⟨bv, ov, none⟩ := by injection hv with h1; exact h1.symm
        subst hv1
        obtain ⟨bv', ov', hpv, hcv'⟩ := at_u8 (k := k) (unhide HL) h4 hkl
        cases hpv
        exact hcv'
      have hkl' : k < l.length := by rw [unhide HL]; exact hkl
      have hTK : l.take (k + 1) = l.take k ++ [l.getD k 0] := by
        rw [List.take_add_one, List.getElem?_eq_getElem hkl', Option.toList_some]
        simp [List.getD, List.getElem?_eq_getElem hkl']
      have hLK : (l.take k).length = k := by simp; omega
      have hbx : isByte (l.getD k 0) := unhide HBY _ (by simp [List.getD, List.getElem?_eq_getElem hkl'])
      have HS1 : Hid (foldE byt.gtV inv 0 [] (l.take (k + 1)) = stepE byt.gtV inv k (foldE byt.gtV inv 0 [] (l.take k)) (l.getD k 0)) := (show _ = _ by rw [hTK, foldE_snoc, hLK, Nat.zero_add])
      have HS2 : Hid (foldE str.gtV inv 0 [] ((l.take (k + 1)).map one) = stepE str.gtV inv k (foldE str.gtV inv 0 [] ((l.take k).map one)) (one (l.getD k 0))) := (show _ = _ by rw [hTK, List.map_append, List.map_cons, List.map_nil, foldE_snoc, List.length_map, hLK, Nat.zero_add])
      clear hTK hLK hkl'
      generalize l.getD k 0 = x at *
      obtain ⟨m, rfl⟩ : ∃ m : Nat, x = m := ⟨x.toNat, by unfold isByte at hbx; omega⟩
      have hm : m < 256 := by unfold isByte at hbx; omega
      have HA1 := hide (byt.add_any (unhide HTR).s (unhide HF1) h2 hi (by omega) (m : Int))
      rw [← unhide HS1] at HA1
      have HA2 : Hid (∀ W v', str.Sk W bt inv k (foldE str.gtV inv 0 [] ((l.take k).map one)) v' → Calls Try.prog 10 #[.pointer (some ⟨bt, 0, none⟩), .string (one m)] W fun e w' => e = .returned (.int .i64 0) ∧ ∃ v'', str.Sk w' bt inv (k + 1) (foldE str.gtV inv 0 [] ((l.take (k + 1)).map one)) v'' ∧ Kept (bt :: v'.ownBlock.toList) W w' ∧ (v''.ownBlock = v'.ownBlock ∨ ∃ j, v''.ownBlock = some j ∧ W.heap.size ≤ j)) := by
        intro W v' hs
        have := str.add_any hs (unhide HF2) h2 hi (by omega) (one m)
        rwa [← unhide HS2] at this
      have hcx := unhide HCV _ (unhide HTR).kept
      have hcv := conv_one hm
      go_wp2_with (first
        | (go_at_call 9; refine (unhide HA1).mono ?_; rintro e w5 ⟨rfl, v5, hs5, hk5, hb5⟩; have HS5 := hide hs5; have HT5 := hide (keep_t (unhide HTR).s (unhide HTR).t hk5); have HK5 := hide (fresh (unhide HTR).kept (unhide HTR).ns (unhide HTR).os hk5); have HB5 := hide (grow_new (unhide HTR).kept (unhide HTR).os hb5); have hcx5 := unhide HCV _ (unhide HK5); clear HA1 hs5 hk5 hb5)
        | (go_at_call 8; refine (unhide HN0 _).mono ?_; rintro e w7 ⟨rfl, hq⟩; have hq' := hq.symm; subst hq')
        | (go_at_call 10; refine (unhide HA2 _ _ ((unhide HT5).keep ((Kept.refl [] w5).alloc _) (by simp) (by simp))).mono ?_; rintro e w6 ⟨rfl, v6, hs6, hk6, hb6⟩; have HS6 := hide hs6; have HK6 := hide hk6; have HB6 := hide hb6; clear HA2 hs6 hk6 hb6))
      have hka : Kept [] w (w5.alloc (.cells #[.int .u8 (m : Int)] 5)) := (unhide HK5).alloc _
      have hs5a := (unhide HS5).keep ((Kept.refl [] w5).alloc (.cells #[.int .u8 (m : Int)] 5)) (by simp) (by simp)
      have ht5a := (unhide HT5).keep ((Kept.refl [] w5).alloc (.cells #[.int .u8 (m : Int)] 5)) (by simp) (by simp)
      refine ⟨⟨k + 1, by omega, by simp, v5, v6, keep_s hs5a ht5a (unhide HK6), unhide HS6, fresh hka (unhide HTR).nt (unhide HTR).ot (unhide HK6), (unhide HTR).ns, (unhide HTR).nt, unhide HB5, grow_new hka (unhide HTR).ot (unhide HB6)⟩, by simp [intOf]; omega⟩
    · obtain rfl : k = L := by omega
      have t1 : ((k : Int) < (k : Int)) = False := by simp
      have he : l.take k = l := List.take_of_length_le (by rw [unhide HL]; omega)
      rw [he] at HTR HF1 HF2
      have hmap := fold_map (f := one) (gt1 := byt.gtV) (gt2 := str.gtV) (P := isByte) one_gt inv l 0 [] (by simp) (unhide HBY)
      have hmap' : foldE str.gtV inv 0 [] (l.map one) = mapE one (foldE byt.gtV inv 0 [] l) := hmap
      have HVS := hide (fold_vals (gt1 := byt.gtV) (P := isByte) inv l 0 [] (by simp) (unhide HBY))
      rw [hmap'] at HTR HF2
      clear he hmap hmap'
      generalize foldE byt.gtV inv 0 [] l = es at *
      have hnl := (unhide HF1).len
      have HSI := hide (byt.size_any (unhide HTR).s)
      have HSJ := hide (str.size_any (unhide HTR).t)
      rw [mapE_len] at HSJ
      have HCO := hide (byt.count_any (unhide HTR).s)
      have HCP := hide (str.count_any (unhide HTR).t)
      go_wp2_with (first
        | (go_at_call 11; refine (unhide HSI).mono ?_; rintro e w7 ⟨rfl, hq⟩; have hq' := hq.symm; subst hq')
        | (go_at_call 12; refine (unhide HSJ).mono ?_; rintro e w7 ⟨rfl, hq⟩; have hq' := hq.symm; subst hq')
        | (go_at_call 13; refine (unhide HCO).mono ?_; rintro e w7 ⟨rfl, hq⟩; have hq' := hq.symm; subst hq')
        | (go_at_call 14; refine (unhide HCP).mono ?_; rintro e w7 ⟨rfl, hq⟩; have hq' := hq.symm; subst hq'))
      refine world_at (R := fun W => Duo w W inv bs bt k es (mapE one es) vs vt) (unhide HTR) ?_
      clear HTR HSI HSJ HCO HCP
      intro W0 htr
      have HTR := hide htr
      clear htr
      go_loopw [8] (fun s8 wi => ∃ r : Nat, 1 ≤ r ∧ r ≤ k + 1 ∧ s8 = .int .i64 r ∧ Kept [] W0 wi) (fun s8 _ => k + 1 - (intOf s8).toNat)
      case atStart => exact ⟨1, by omega, by omega, rfl, Kept.refl _ _⟩
      case round =>
        obtain ⟨r, hr1, hr2, rfl, hki⟩ := hrel
        have HKI := hide hki
        by_cases hrk : r ≤ k
        · have t4 : ((r : Int) ≤ (k : Int)) = True := by simp; omega
          have HQa := hide (byt.query_any ((unhide HTR).s.keep hki (by simp) (by simp)) (unhide HF1) (by omega) r hr1 hrk)
          have HQb := hide (fun W (hk : Kept [] W0 W) => str.query_any ((unhide HTR).t.keep hk (by simp) (by simp)) (unhide HF2) (by omega) r hr1 hrk)
          have hne : es ≠ [] := by
            intro h
            have := (unhide HF1).sum
            rw [h] at this
            simp [sumg] at this
            omega
          rw [nearE_map (f := one) (0 : Int) ByteArray.empty r es hne] at HQb
          have hbx : isByte (nearE 0 r es) := nearE_val (0 : Int) r es (unhide HVS) (by unfold isByte; omega)
          clear hne hki
          generalize nearE 0 r es = x at *
          obtain ⟨m, rfl⟩ : ∃ m : Nat, x = m := ⟨x.toNat, by unfold isByte at hbx; omega⟩
          have hm : m < 256 := by unfold isByte at hbx; omega
          have hcv := conv_one hm
          go_wp2_with (first
            | (go_at_call 15; refine (unhide HQa).mono ?_; rintro e w7 ⟨rfl, hq⟩; have HK7 := hide ((unhide HKI).trans hq (by simp)); clear hq HQa)
            | (go_at_call 16; refine (unhide HQb _ (unhide HK7)).mono ?_; rintro e w8 ⟨rfl, hq⟩; have HK8 := hide ((unhide HK7).trans hq (by simp)); clear hq HQb)
            | (go_at_call 8; refine (unhide HN0 _).mono ?_; rintro e w9 ⟨rfl, hq⟩; have hq' := hq.symm; subst hq'))
          exact ⟨⟨r + 1, by omega, by omega, by simp, (unhide HK8).alloc _⟩, by simp [intOf]; omega⟩
        · obtain rfl : r = k + 1 := by omega
          have t4 : (((k + 1 : Nat) : Int) ≤ (k : Int)) = False := by simp; omega
          go_wp2_with fail
          go_ret
          exact ⟨rfl, (unhide HTR).kept.trans (unhide HKI) (by simp)⟩

set_option maxHeartbeats 1000000 in
set_option maxRecDepth 100000 in
theorem order_no {w : World} {vv : Value} {l : List Int} {inv : Int} (hv : SeesU w vv l) (h : inv < 2 ∨ 1024 < inv) :
    Calls Try.prog 3 #[.int .i64 inv, vv] w fun e w' => e = .returned (.bool true) ∧ Kept [] w w' := by
  have HKN := hide (known_any (w := w))
  have HN := hide (fun w => str.new_no (w := w) h)
  have hcan : decide ((2 : Int) ≤ inv ∧ inv ≤ 1024) = false := by simp; omega
  have HC := hide (fun w => can_any (w := w) inv)
  rw [hcan] at HC
  obtain ⟨pv, cv, rfl, hc1, hc2, -⟩ := hv
  clear hcan h
  go_enter Try.func3, Try.ntmps3
  go_wp2_with (first
    | (go_at_call 4; refine (unhide HKN).mono ?_; rintro e w1 ⟨rfl, hk1⟩; have HK1 := hide hk1; clear hk1 HKN)
    | (go_at_call 6; refine (unhide HN _).mono ?_; rintro e w2 ⟨rfl, hq⟩; have hq' := hq.symm; subst hq')
    | (go_at_call 5; refine (unhide HC _).mono ?_; rintro e w3 ⟨rfl, hq⟩; have hq' := hq.symm; subst hq'))
  go_ret
  exact ⟨rfl, unhide HK1⟩
end Go.Proofs.Ytgiifedljebclab
