/- The law SealStreams, walked. -/
import Derived.Test.YtlcepoomjnpfpaaDoorSS
import Derived.BigRegion
import Derived.Deep.DeepCutAuto
import Derived.Deep.RegionHeld3
namespace Go.Proofs.YtlcepoomjnpfpaaDoor
open Go.RowKit

/-- one step of a script -/
structure Ord where
  who : Int
  dv : Value
  d : List Nat
  ask : Bool
def Script (w : World) (v : Value) (os : List Ord) : Prop :=
  ∃ a cap, v = .slice a os.length cap ∧ os.length ≤ cap ∧ cap ≤ maxLen ∧ (∀ o ∈ os, Sees w o.dv o.d) ∧
    (os = [] ∨ ∃ b off, a = some ⟨b, off, none⟩ ∧ b < w.heap.size ∧ ∀ j o, os[j]? = some o → w.cell? ⟨b, off + j * 3, none⟩ = some (.int .i64 o.who) ∧ w.cell? ⟨b, off + j * 3 + 1, none⟩ = some o.dv ∧ w.cell? ⟨b, off + j * 3 + 2, none⟩ = some (.bool o.ask))

theorem Script.at {w : World} {a : Option Addr} {n cap : Nat} {os : List Ord} (h : Script w (.slice a n cap) os) {k : Nat} (hk : k < n) :
    ∃ b off o, a = some ⟨b, off, none⟩ ∧ b < w.heap.size ∧ os[k]? = some o ∧ w.cell? ⟨b, off + k * 3, none⟩ = some (.int .i64 o.who) ∧ w.cell? ⟨b, off + k * 3 + 1, none⟩ = some o.dv ∧ w.cell? ⟨b, off + k * 3 + 2, none⟩ = some (.bool o.ask) ∧ Sees w o.dv o.d := by
  obtain ⟨a', cap', hv, h1, h2, h3, h4⟩ := h
  simp only [Value.slice.injEq] at hv
  obtain ⟨rfl, rfl, rfl⟩ := hv
  rcases h4 with h4 | ⟨b, off, rfl, h5, h6⟩
  · subst h4; simp at hk
  · obtain ⟨q1, q2, q3⟩ := h6 k os[k] (List.getElem?_eq_getElem hk)
    exact ⟨b, off, os[k], rfl, h5, List.getElem?_eq_getElem hk, q1, q2, q3, h3 os[k] (List.getElem_mem hk)⟩

/-- the sum of the lengths so far -/
def longs (os : List Ord) : Nat := (os.map fun o => o.d.length).sum
theorem longs_succ {os : List Ord} {k : Nat} {o : Ord} (h : os[k]? = some o) : longs (os.take (k + 1)) = longs (os.take k) + o.d.length := by
  unfold longs
  rw [List.take_add_one, h]
  simp

theorem callsAt {P : Program} {f : Nat} {args : Array Value} {Q : Ending → World → Prop} {R : World → Prop} {x : World} (h : R x) (H : ∀ wr, R wr → Calls P f args wr Q) : Calls P f args x Q := H x h
theorem longs_le (os : List Ord) (k : Nat) : longs (os.take k) ≤ longs os := by
  have h : longs os = longs (os.take k) + longs (os.drop k) := by
    unfold longs
    rw [← List.sum_append, ← List.map_append, List.take_append_drop]
  omega

/-- a region's ends, named once -/
theorem region_out {P : Program} {c : Code} {K : Act → World → Prop} {Q : Exit → Act → World → Prop} {a : Act} {w : World} (R : Act → Act → World → Prop) (h1 : ∀ K0 : Act → World → Prop, Hid (∀ a' w', R a a' w' → K0 a' w') → Code.wp P c (Exit.then K0 Q) a w) (h2 : ∀ a' w', R a a' w' → K a' w') : Code.wp P c (Exit.then K Q) a w :=
  h1 K (hide h2)

set_option maxRecDepth 100000 in
set_option maxHeartbeats 2000000 in
theorem streams_walk {w : World} (ht : Tab w) {v : Value} {os : List Ord} (hv : Script w v os) (hb : ∀ o ∈ os, o.d.length ≤ 140737488351232) (hn : os.length ≤ 140737488351232) :
    Calls Tryd.prog 4 #[v] w fun e w' => e = .returned (.bool true) ∧ Kept [] w w' := by
  have HT := hide ht
  have HV := hide hv
  have HB := hide hb
  have h0w := ht.1
  obtain ⟨pa, pc, hp, -⟩ := hv
  subst hp
  clear ht hb
  generalize hL : os.length = n at *
  have HL := hide hL
  clear hL
  go_enter Tryd.func4, Tryd.ntmps4
  go_wp2_with fail
  refine (newStream_any _).mono ?_
  rintro e w1 ⟨rfl, hs1, hk1, hb1⟩
  go_wp2_with fail
  refine (newStream_any _).mono ?_
  rintro e w2 ⟨rfl, hs2, hk2, hb2⟩
  have HK2 : Hid (Kept [] w w2) := hk1.trans hk2 (by simp)
  have HS0 : Hid (Str w2 w.heap.size 0 0) := Blk.kept hs1 hk2 (by simp)
  have HS1 := hide hs2
  have hne01 : w.heap.size ≠ w1.heap.size := by omega
  generalize hq0 : w.heap.size = s0 at *
  generalize hq1 : w1.heap.size = s1 at *
  have hs12 : s1 < w2.heap.size := hb2
  clear hs1 hs2 hk1 hk2
  have hw0 := (unhide HK2).size
  go_wp2_with fail
  refine world_at (R := fun wx => Blk wx w2.heap.size #[.pointer (some ⟨s0, 0, none⟩), .pointer (some ⟨s1, 0, none⟩), .pointer none] 29 ∧ Str wx s0 0 0 ∧ Str wx s1 0 0 ∧ Kept [] w wx) ⟨Blk.new _ _ _, Blk.alloc (unhide HS0) _, Blk.alloc (unhide HS1) _, (unhide HK2).alloc _⟩ ?_
  rintro w3 ⟨hlr, hs0, hs1, hk3⟩
  generalize w2.heap.size = lb at *
  have HLR := hide hlr
  have HS0' := hide hs0
  have HS1' := hide hs1
  have HK3 := hide hk3
  clear hlr hs0 hs1 hk3 HS0 HS1 HK2
  have HV3 : Hid (∀ k, k < n → ∃ b off o, pa = some ⟨b, off, none⟩ ∧ b < w.heap.size ∧ os[k]? = some o ∧ w.cell? ⟨b, off + k * 3, none⟩ = some (.int .i64 o.who) ∧ w.cell? ⟨b, off + k * 3 + 1, none⟩ = some o.dv ∧ w.cell? ⟨b, off + k * 3 + 2, none⟩ = some (.bool o.ask) ∧ Sees w o.dv o.d) := fun k hk => (unhide HV).at hk
  go_loop [5, 6] (fun vg vi => ∃ k : Nat, k ≤ n ∧ vi = .int .i64 k ∧ vg = .int .i64 (longs (os.take k) : Nat) ∧ longs (os.take k) ≤ 1099511627776) (fun _ vi => n - (intOf vi).toNat)
  case atStart => exact ⟨0, by omega, rfl, rfl, by simp [longs]⟩
  case round =>
    obtain ⟨k, hk, rfl, rfl, hlg⟩ := hrel
    by_cases hkn : k < n
    · obtain ⟨b, off, o, rfl, hbl, hok, hc0, hc1, hc2, hse⟩ := unhide HV3 k hkn
      have hc1' := ((unhide HK3).cell (p := ⟨b, off + k * 3 + 1, none⟩) hbl (by simp)).trans hc1
      have hol := unhide HB o (List.mem_of_getElem? hok)
      have HLS := hide (longs_succ hok)
      obtain ⟨xa, xc, hx1, -⟩ := hse
      rw [hx1] at hc1'
      generalize hM : o.d.length = M at hc1' hol HLS
      generalize longs (os.take k) = g at hlg HLS
      clear hc0 hc1 hc2 hok hM hx1
      by_cases hbig : g + M ≤ 1099511627776
      · have tb : decide ((1099511627776 : Int) < (g : Int) + (M : Int)) = false := by simp; omega
        have tb2 : ¬ ((1099511627776 : Int) < (g : Int) + (M : Int)) := by omega
        go_wp2
        exact ⟨⟨k + 1, by omega, by simp, by rw [unhide HLS]; simp, by rw [unhide HLS]; exact hbig⟩, by simp [intOf]; omega⟩
      · have tb2 : (1099511627776 : Int) < (g : Int) + (M : Int) := by omega
        go_wp2
        go_ret
        exact ⟨rfl, unhide HK3⟩
    · obtain rfl : k = n := by omega
      have hfull : os.take k = os := by rw [← unhide HL, List.take_length]
      rw [hfull] at hlg ⊢
      have HLG := hide hlg
      clear hlg hk hkn hfull
      go_wp2_with fail
      obtain ⟨ss, hss⟩ : ∃ ss : Nat → Nat, ss = fun j => if j = 0 then s0 else s1 := ⟨_, rfl⟩
      have hss0 : ss 0 = s0 := by rw [hss]; rfl
      have hss1 : ss 1 = s1 := by rw [hss]; rfl
      generalize hab : w3.heap.size = ab at *
      have hw3 := (unhide HK3).size
      have HSS : Hid (SS w (w3.alloc (.cells #[.slice none 0 0, .slice none 0 0, .slice none 0 0] 34)) lb ab ss (fun _ => .slice none 0 0) (fun _ => []) (fun _ => [])) := by
        refine ⟨?_, ?_, ?_, fun j _ => own_nil _ _, fun j _ x hx => (by cases hx), fun i j _ _ _ x hx => (by cases hx), ?_, ?_, (unhide HK3).alloc _⟩
        · rw [hss0, hss1]; exact Blk.alloc (unhide HLR) _
        · rw [← hab]; exact Blk.new _ _ _
        · intro j hj
          obtain rfl | rfl : j = 0 ∨ j = 1 := by omega
          · rw [hss0]; exact Blk.alloc (unhide HS0') _
          · rw [hss1]; exact Blk.alloc (unhide HS1') _
        · rw [hss0, hss1]; exact hne01
        · rw [hss0, hss1]; omega
      go_loopw [8] (fun vi wr => ∃ (i : Nat) (vs : Nat → Value) (al : Nat → List Nat), i ≤ k ∧ vi = .int .i64 i ∧ SS w wr lb ab ss vs al al ∧ (al 0).length + (al 1).length + (al 2).length ≤ longs (os.take i)) (fun vi _ => k - (intOf vi).toNat)
      case atStart => exact ⟨0, _, _, by omega, rfl, unhide HSS, by simp⟩
      case round =>
        obtain ⟨i, vs, al, hi, rfl, hsr, hsum⟩ := hrel
        have HSR := hide hsr
        have HSUM := hide hsum
        clear hsr hsum HSS
        by_cases hik : i < k
        · obtain ⟨b, off, o, rfl, hbl, hok, hc0, hc1, hc2, hse⟩ := unhide HV3 i hik
          have kwr := (unhide HSR).kept
          have hc0' := (kwr.cell (p := ⟨b, off + i * 3, none⟩) hbl (by simp)).trans hc0
          have hc1' := (kwr.cell (p := ⟨b, off + i * 3 + 1, none⟩) hbl (by simp)).trans hc1
          have hc2' := (kwr.cell (p := ⟨b, off + i * 3 + 2, none⟩) hbl (by simp)).trans hc2
          have hol := unhide HB o (List.mem_of_getElem? hok)
          have HLS := hide (longs_succ hok)
          have HSE : Hid (Sees wr o.dv o.d) := hse.kept kwr (Or.inr (by simp))
          have HSEW := hide hse
          obtain ⟨who, dv, d, ask⟩ := o
          simp only at hc0' hc1' hc2' hol HLS HSE HSEW
          obtain ⟨xa, xc, hx1, -⟩ := unhide HSE
          subst hx1
          clear hc0 hc1 hc2 hok hse kwr
          have hcase : who < 0 ∨ 2 < who ∨ ∃ c : Nat, who = (c : Int) ∧ c < 3 := by
            by_cases h1 : who < 0
            · exact Or.inl h1
            · by_cases h2 : 2 < who
              · exact Or.inr (Or.inl h2)
              · exact Or.inr (Or.inr ⟨who.toNat, by omega, by omega⟩)
          rcases hcase with hw | hw | ⟨c, rfl, hc⟩
          · go_wp2_with fail
            exact ⟨⟨i + 1, vs, al, by omega, by simp, (unhide HSR).quiet ((Kept.refl [] wr).alloc _), by rw [unhide HLS]; have := unhide HSUM; omega⟩, by simp [intOf]; omega⟩
          · go_wp2_with fail
            exact ⟨⟨i + 1, vs, al, by omega, by simp, (unhide HSR).quiet ((Kept.refl [] wr).alloc _), by rw [unhide HLS]; have := unhide HSUM; omega⟩, by simp [intOf]; omega⟩
          · have hcz : ¬ ((c : Int) < 0) := by omega
            have hc2 : ¬ ((2 : Int) < (c : Int)) := by omega
            have HWR := (unhide HSR).kept.size
            go_wp2_with fail
            refine callsAt (R := fun wx => SS w wx lb ab ss vs al al ∧ Blk wx wr.heap.size #[.int .i64 (c : Int), .slice xa d.length xc, .bool ask] 33 ∧ Sees wx (.slice xa d.length xc) d) ⟨(unhide HSR).quiet ((Kept.refl [] wr).alloc _), Blk.new _ _ _, (unhide HSE).kept ((Kept.refl [] wr).alloc _) (Or.inr (by simp))⟩ ?_
            rintro wo ⟨hso, hbo, hse⟩
            refine (lent_any hse hol).mono ?_
            rintro e w4 ⟨g, gc, rfl, hl4, hk4⟩
            have hgn : ∀ j, j < 3 → (vs j).ownBlock ≠ some g := by
              intro j hj e
              have := (own_lt (hso.row j hj) e).2
              have := hl4.caps.2.2.1
              omega
            have HGN := hide hgn
            have HS4 := hide (hso.quiet hk4)
            have HB4 := hide (hbo.kept hk4 (by simp))
            have HSE4 := hide (hse.kept hk4 (Or.inr (by simp)))
            have HL4 := hide hl4
            have hwo := hso.kept.size
            have HT4 := hide ((unhide HT).kept (unhide HS4).kept (by simp))
            have hlen : (al c).length + d.length ≤ 1099511627776 := by
              have h1 := unhide HLS
              have h2 := unhide HSUM
              have h3 := longs_le os (i + 1)
              have h4 := unhide HLG
              obtain rfl | rfl | rfl : c = 0 ∨ c = 1 ∨ c = 2 := by omega
              all_goals omega
            obtain ⟨pv, hpv, hcw⟩ := (unhide HS4).write (unhide HT4) hc (unhide HL4).sees (by omega)
            have HCW := hide hcw
            have hob0 : w4.cell? ⟨wr.heap.size, 0, none⟩ = some (.int .i64 (c : Int)) := by rw [(unhide HB4).cell]; rfl
            have hlc : wo.heap.size ≤ g := (unhide HL4).caps.2.2.1
            clear hso hbo hse hl4 hk4 hgn hcw HSR HSE hc0' hc1' hc2'
            generalize hM : d.length = M at *
            have HM := hide hM
            clear hM
            go_wp2_with fail
            refine (unhide HCW).mono ?_
            rintro e w5 ⟨rfl, hs5, F5, hk5, hF5⟩
            have hgF : g ∉ F5 := by
              intro hx
              obtain ⟨_, _, hst⟩ := hF5 g hx
              obtain ⟨cur, hcur⟩ := own_blk (unhide HL4).2.2 (k := g) rfl
              exact blk_ne hcur hst (by decide) rfl
            have hoF : wr.heap.size ∉ F5 := by
              intro hx
              obtain ⟨_, _, hst⟩ := hF5 _ hx
              exact blk_ne (unhide HB4) hst (by decide) rfl
            have HL5 := hide ((unhide HL4).kept hk5 hgF)
            have HB5 := hide ((unhide HB4).kept hk5 hoF)
            have HS5 := hide hs5
            have HD5 : Hid (∀ wz, Kept [] w wz → Sees wz (.slice xa M xc) d) := fun wz hz => (unhide HSEW).kept hz (Or.inr (by simp))
            have hob1 : w5.cell? ⟨wr.heap.size, 1, none⟩ = some (.slice xa M xc) := by rw [(unhide HB5).cell]; rfl
            clear hs5 hk5 hF5 hgF hoF HL4 HB4 HS4 HSE4 HT4 HCW hob0 hpv
            go_wp2_with fail
            refine (kept_any (unhide HL5) (unhide HD5 _ (unhide HS5).kept)).mono ?_
            rintro e w6 ⟨rfl, hk6⟩
            have HL6 := hide ((unhide HL5).kept hk6.kept (by simp))
            have HB6 := hide ((unhide HB5).kept hk6.kept (by simp))
            have HS6 := hide ((unhide HS5).quiet hk6.kept)
            have hge := (unhide HL6).caps
            clear hk6 HL5 HB5 HS5 hob1
            obtain ⟨ob, hob⟩ : ∃ ob, ob = wr.heap.size := ⟨_, rfl⟩
            rw [← hob] at HB6 HWR ⊢
            clear hob
            go_wp2_with fail
            have hbase : w.heap.size ≤ wo.heap.size := hwo
            generalize wo.heap.size = ws at *
            go_loopw [11] (fun vt wr => ∃ (t : Nat) (ls : List Nat), t ≤ M ∧ vt = .int .i64 t ∧ Lent wr ws g gc M ls ∧ Blk wr ob #[.int .i64 (c : Int), .slice xa M xc, .bool ask] 33 ∧ SS w wr lb ab ss vs (put3 al c (al c ++ d)) al) (fun vt _ => M - (intOf vt).toNat)
            case atStart => exact ⟨0, d, by omega, rfl, unhide HL6, unhide HB6, unhide HS6⟩
            case round =>
              obtain ⟨t, ls, ht, rfl, hlr, hbr, hsr⟩ := hrel
              have HLR := hide hlr
              have HBR := hide hbr
              have HSR := hide hsr
              clear hlr hbr hsr HL6 HB6 HS6
              obtain ⟨hgc1, hgc2, hgc3, hgc4⟩ := (unhide HLR).caps
              by_cases htm : t < M
              · have fz := (unhide HLR).frozen t
                have cl := (unhide HLR).cell htm
                have hx := getD_lt (unhide HLR).2.1 (show t < ls.length by rw [(unhide HLR).1]; exact htm)
                generalize ls.getD t 0 = x at cl hx
                have wy : IntKind.u8.wrap (255 - (x : Int)) = ((255 - x : Nat) : Int) := by rw [IntKind.wrap_u8']; omega
                have hy : 255 - x < 256 := by omega
                have kg := (Kept.refl [g] wr).setCell (p := ⟨g, t, none⟩) (Or.inl (by simp)) (.int .u8 ((255 - x : Nat) : Int))
                have HQ2 := hide ((unhide HLR).set htm hy)
                have HS2 := hide ((unhide HSR).over (unhide HLR) hbase (unhide HGN) kg)
                have hog : ob ≠ g := by
                  obtain ⟨cur, hcur⟩ := own_blk (unhide HLR).2.2 (k := g) rfl
                  exact blk_ne (unhide HBR) hcur (by decide)
                have HB2 := hide ((unhide HBR).kept kg (by simpa using hog))
                clear kg
                generalize 255 - x = y at wy hy HQ2 HS2 HB2
                have t4 : (t : Int) < (M : Int) := by omega
                go_wp2
                go_roundw
                case rel => exact ⟨t + 1, ls.set t y, by omega, by simp, unhide HQ2, unhide HB2, unhide HS2⟩
                case measure => simp [intOf]; omega
              · obtain rfl : t = M := by omega
                go_wp2_with fail
                obtain ⟨i0, hi0, hz0, hz1, hz2⟩ := info_parts info5p
                have HI := hide (⟨hi0, hz0, hz1, hz2⟩ : _ ∧ _ ∧ _ ∧ _)
                clear hi0 hz0 hz1 hz2
                have hob0 : wr.cell? ⟨ob, 0, none⟩ = some (.int .i64 (c : Int)) := by rw [(unhide HBR).cell]; rfl
                have hob1 : wr.cell? ⟨ob, 1, none⟩ = some (.slice xa t xc) := by rw [(unhide HBR).cell]; rfl
                have hac := (unhide HSR).acell hc
                have HSX := hide ((unhide HSR).quiet ((Kept.refl [] wr).drew))
                have HBX := hide ((unhide HBR).kept ((Kept.refl [] wr).drew) (by simp))
                have HOW := hide ((unhide HSX).row c hc)
                have HSD := hide (unhide HD5 _ (unhide HSX).kept)
                have HG : Hid (∀ w1, wr.drew.grownBy w1 (vs c).ownBlock → w1.cell? ⟨ob, 0, none⟩ = some (.int .i64 (c : Int)) ∧ w1.cell? ⟨ab, c, none⟩ = some (vs c) ∧ w1.frozen? ⟨ab, c, none⟩ = false ∧ Blk w1 ob #[.int .i64 (c : Int), .slice xa t xc, .bool ask] 33) := by
                  intro w1 hg
                  have k1 : Kept (vs c).ownBlock.toList wr.drew w1 := (Kept.refl _ _).grown hg (fun k hk => Or.inl (by simp [hk]))
                  have hnot : ∀ x cs t, Blk wr.drew x cs t → t ≠ 5 → x ∉ (vs c).ownBlock.toList := by
                    intro x cs t hx ht hm
                    simp at hm
                    obtain ⟨cur, hcur⟩ := own_blk (unhide HOW) hm
                    exact blk_ne hx hcur ht rfl
                  have b1 := (unhide HBX).kept k1 (hnot _ _ _ (unhide HBX) (by decide))
                  have b2 := (unhide HSX).arr.kept k1 (hnot _ _ _ (unhide HSX).arr (by decide))
                  refine ⟨by rw [b1.cell]; rfl, ?_, b2.frozen c, b1⟩
                  rw [b2.cell]
                  obtain rfl | rfl | rfl : c = 0 ∨ c = 1 ∨ c = 2 := by omega
                  all_goals rfl
                have hby6 : (al c).length + d.length ≤ 140737488355328 := by rw [unhide HM]; omega
                have HBS : Hid (w.heap.size ≤ wr.drew.heap.size) := (unhide HSX).kept.size
                obtain ⟨vc, hvc⟩ : ∃ vc, vc = vs c := ⟨_, rfl⟩
                have HVC := hide hvc
                rw [← hvc] at hac HOW HG
                clear hvc
                have hc3 : (c : Int) < 3 := by omega
                obtain ⟨ad, had⟩ : ∃ ad, ad = al c ++ d := ⟨_, rfl⟩
                have HAD := hide had
                clear had
                obtain ⟨NL, hNL⟩ : ∃ NL, NL = ad.length := ⟨_, rfl⟩
                have HNL := hide hNL
                clear hNL
                have hoa : ob ≠ ab := blk_ne (unhide HBX) (unhide HSX).arr (by decide)
                have HG5 : Hid (∀ w1, Blk w1 ob #[.int .i64 (c : Int), .slice xa t xc, .bool ask] 33 → w1.cell? ⟨ob, 1, none⟩ = some (.slice xa t xc)) := fun w1 hb => by rw [hb.cell]; rfl
                clear HG5
                go_cut [102] (fun tt wc => tt = .pointer (some ⟨ab, c, none⟩) ∧ ∃ na nc, Hid (SS w wc lb ab ss (put3 vs c (.slice na NL nc)) (put3 al c ad) (put3 al c ad) ∧ Blk wc ob #[.int .i64 (c : Int), .slice xa t xc, .bool ask] 33))
                case first =>
                  go_region_law ((refine step_append_sees wr.drew (by rfl) (.tmp 98) (.tmp 100) 22 (by rfl) w.heap.size 5 i0 (.int .u8 0) Tryd.underlying22 (unhide HI).1 (unhide HI).2.1 (unhide HI).2.2.1 (unhide HI).2.2.2 rfl vc (al c) (by rfl) (unhide HOW) (.slice xa t xc) d (by rfl) (unhide HSD) hby6 (unhide HBS) ?_; intro v' w1 hown1 hgrow1 hat1; rw [← unhide HAD, ← unhide HNL] at hown1; obtain ⟨na, nc, hv'⟩ := own_len hown1; subst hv'; obtain ⟨hq1, hq2, hq3, hq4⟩ := unhide HG w1 hgrow1))
                  all_goals
                    go_wp2_with fail
                    go_meet
                    refine ⟨rfl, na, nc, hide ⟨?_, ?_⟩⟩
                    · rw [unhide HAD]
                      have hbx : ∀ x ∈ al c ++ d, x < 256 := by
                        intro x hx
                        rcases List.mem_append.1 hx with hx | hx
                        · exact (unhide HSX).byte c hc x hx
                        · obtain ⟨_, _, _, _, _, hh, _⟩ := unhide HSD; exact hh x hx
                      refine (unhide HSX).grow hc hbx ?_ (by rw [← unhide HVC]; exact hgrow1) (by rw [← unhide HVC]; exact hat1)
                      rw [← unhide HAD, ← unhide HNL]; exact hown1
                    · exact hq4.kept ((Kept.refl [ab] w1).setCell (p := ⟨ab, c, none⟩) (Or.inl (by simp)) _) (by simp; exact hoa)
                case rest =>
                  obtain ⟨rfl, na, nc, hx⟩ := hcut
                  have HSZ := hide (unhide hx).1
                  have HBZ := hide (unhide hx).2
                  clear hx HSX HBX HOW HG HSR HBR HLR hob0 hob1 hac
                  have hob0 : wc.cell? ⟨ob, 0, none⟩ = some (.int .i64 (c : Int)) := by rw [(unhide HBZ).cell]; rfl
                  have hob2 : wc.cell? ⟨ob, 2, none⟩ = some (.bool ask) := by rw [(unhide HBZ).cell]; rfl
                  have hac : wc.cell? ⟨ab, c, none⟩ = some (.slice na NL nc) := by rw [(unhide HSZ).acell hc, put3_same]
                  have hrow := (unhide HSZ).row c hc
                  rw [put3_same, put3_same] at hrow
                  have hbyte := (unhide HSZ).byte c hc
                  rw [put3_same] at hbyte
                  have HCR := hide (rcrc_any (Sees.of_own hrow hbyte))
                  obtain ⟨pv, hpv, hsum1, hlen1⟩ := (unhide HSZ).asks hc
                  rw [put3_same] at hsum1 hlen1
                  have HSU := hide (hsum1 0)
                  have HLE := hide (hlen1 0)
                  have HREL : Hid (SS w wc lb ab ss (put3 vs c (.slice na NL nc)) (put3 al c ad) (put3 al c ad) ∧ (put3 al c ad 0).length + (put3 al c ad 1).length + (put3 al c ad 2).length ≤ longs (os.take (i + 1))) := by
                    refine ⟨unhide HSZ, ?_⟩
                    have h1 := unhide HLS
                    have h2 := unhide HSUM
                    have h3 : ad.length = (al c).length + t := by rw [unhide HAD, List.length_append, unhide HM]
                    rw [h1]
                    obtain rfl | rfl | rfl : c = 0 ∨ c = 1 ∨ c = 2 := by omega
                    · simp only [put3]; simp; omega
                    · simp only [put3]; simp; omega
                    · simp only [put3]; simp; omega
                  clear hrow hbyte hsum1 hlen1
                  have hc3' : ((c : Int) < 3) = True := by simp; omega
                  have hNL2 := unhide HNL
                  have HSU0 : Hid (Calls Tryd.prog 13 #[pv] wc fun e w' => e = .returned (.int .u32 (askS c ad : Nat)) ∧ w' = wc) := unhide HSU
                  have HLE0 : Hid (Calls Tryd.prog 14 #[pv] wc fun e w' => e = .returned (.int .i64 (askL c ad : Nat)) ∧ w' = wc) := unhide HLE
                  clear HSU HLE
                  have HCR0 : Hid (Calls Tryd.prog 12 #[.slice na NL nc] wc fun e w' => e = .returned (.int .u32 (crc ad : Nat)) ∧ w' = wc) := unhide HCR
                  clear HCR
                  by_cases hc2' : c = 2
                  · have e1 : ((askS c ad : Nat) : Int) = 0 := by unfold askS; rw [if_pos hc2']; rfl
                    have e2 : ((askL c ad : Nat) : Int) = 0 := by unfold askL; rw [if_pos hc2']; rfl
                    have HSU : Hid (Calls Tryd.prog 13 #[pv] wc fun e w' => e = .returned (.int .u32 0) ∧ w' = wc) := by rw [← e1]; exact unhide HSU0
                    have HLE : Hid (Calls Tryd.prog 14 #[pv] wc fun e w' => e = .returned (.int .i64 0) ∧ w' = wc) := by rw [← e2]; exact unhide HLE0
                    have hceq : ((c : Int) == 2) = true := by simp; omega
                    have HCR := HCR0
                    clear e1 e2 hNL2 HSU0 HLE0 HCR0 hc2'
                    generalize crc ad = CR at *
                    go_wp2_with fail
                    refine (unhide HCR).mono ?_
                    rintro e w7 ⟨rfl, hq7⟩
                    have hq7' := hq7.symm
                    subst hq7'
                    cases ask with
                    | false =>
                      go_wp2_with fail
                      obtain ⟨q1, q2⟩ := unhide HREL
                      exact ⟨⟨i + 1, _, _, by omega, by simp, q1, q2⟩, by simp [intOf]; omega⟩
                    | true =>
                      go_wp2_with fail
                      refine (unhide HSU).mono ?_
                      rintro e w8 ⟨rfl, hq8⟩
                      have hq8' := hq8.symm
                      subst hq8'
                      go_wp2_with fail
                      refine (unhide HLE).mono ?_
                      rintro e w9 ⟨rfl, hq9⟩
                      have hq9' := hq9.symm
                      subst hq9'
                      go_wp2_with fail
                      obtain ⟨q1, q2⟩ := unhide HREL
                      exact ⟨⟨i + 1, _, _, by omega, by simp, q1, q2⟩, by simp [intOf]; omega⟩
                  · have e1 : askS c ad = crc ad := by unfold askS; rw [if_neg hc2']
                    have e2 : askL c ad = NL := by unfold askL; rw [if_neg hc2', hNL2]
                    have HSU := HSU0
                    have HLE := HLE0
                    rw [e1] at HSU
                    rw [e2] at HLE
                    have hceq : ((c : Int) == 2) = false := by simp; omega
                    have HCR := HCR0
                    clear e1 e2 hNL2 HSU0 HLE0 HCR0 hc2'
                    generalize crc ad = CR at *
                    go_wp2_with fail
                    refine (unhide HCR).mono ?_
                    rintro e w7 ⟨rfl, hq7⟩
                    have hq7' := hq7.symm
                    subst hq7'
                    cases ask with
                    | false =>
                      go_wp2_with fail
                      obtain ⟨q1, q2⟩ := unhide HREL
                      exact ⟨⟨i + 1, _, _, by omega, by simp, q1, q2⟩, by simp [intOf]; omega⟩
                    | true =>
                      go_wp2_with fail
                      refine (unhide HSU).mono ?_
                      rintro e w8 ⟨rfl, hq8⟩
                      have hq8' := hq8.symm
                      subst hq8'
                      go_wp2_with fail
                      refine (unhide HLE).mono ?_
                      rintro e w9 ⟨rfl, hq9⟩
                      have hq9' := hq9.symm
                      subst hq9'
                      go_wp2_with fail
                      obtain ⟨q1, q2⟩ := unhide HREL
                      exact ⟨⟨i + 1, _, _, by omega, by simp, q1, q2⟩, by simp [intOf]; omega⟩
        · obtain rfl : i = k := by omega
          have t9 : ((i : Int) < (i : Int)) = False := by simp
          obtain ⟨a0, c0, hv0⟩ := own_len ((unhide HSR).row 0 (by omega))
          obtain ⟨a1, c1, hv1⟩ := own_len ((unhide HSR).row 1 (by omega))
          have hac0 := (unhide HSR).acell (c := 0) (by omega)
          have hac1 := (unhide HSR).acell (c := 1) (by omega)
          have HC0 := hide (rcrc_any (Sees.of_own ((unhide HSR).row 0 (by omega)) ((unhide HSR).byte 0 (by omega))))
          have HC1 := hide (rcrc_any (Sees.of_own ((unhide HSR).row 1 (by omega)) ((unhide HSR).byte 1 (by omega))))
          rw [hv0] at hac0 HC0
          rw [hv1] at hac1 HC1
          have hl0 := (unhide HSR).lcell (c := 0) (by omega)
          have hl1 := (unhide HSR).lcell (c := 1) (by omega)
          have hl2 := (unhide HSR).lcell2
          have HQS0 : Hid (∀ m, Calls Tryd.prog 13 #[.pointer (some ⟨ss 0, 0, none⟩)] (wr.drewN m) fun e w' => e = .returned (.int .u32 (crc (al 0) : Nat)) ∧ ∃ q, w' = wr.drewN q) := fun m => (sum_any (w := wr.drewN m) ((unhide HSR).str 0 (by omega))).mono fun e w' ⟨he, hw⟩ => ⟨he, m, hw⟩
          have HQS1 : Hid (∀ m, Calls Tryd.prog 13 #[.pointer (some ⟨ss 1, 0, none⟩)] (wr.drewN m) fun e w' => e = .returned (.int .u32 (crc (al 1) : Nat)) ∧ ∃ q, w' = wr.drewN q) := fun m => (sum_any (w := wr.drewN m) ((unhide HSR).str 1 (by omega))).mono fun e w' ⟨he, hw⟩ => ⟨he, m, hw⟩
          have HQS2 : Hid (∀ m, Calls Tryd.prog 13 #[.pointer none] (wr.drewN m) fun e w' => e = .returned (.int .u32 0) ∧ ∃ q, w' = wr.drewN q) := fun m => (sum_nil (wr.drewN m)).mono fun e w' ⟨he, hw⟩ => ⟨he, m, hw⟩
          have HQL0 : Hid (∀ m, Calls Tryd.prog 14 #[.pointer (some ⟨ss 0, 0, none⟩)] (wr.drewN m) fun e w' => e = .returned (.int .i64 ((al 0).length : Nat)) ∧ ∃ q, w' = wr.drewN q) := fun m => (len_any (w := wr.drewN m) ((unhide HSR).str 0 (by omega))).mono fun e w' ⟨he, hw⟩ => ⟨he, m, hw⟩
          have HQL1 : Hid (∀ m, Calls Tryd.prog 14 #[.pointer (some ⟨ss 1, 0, none⟩)] (wr.drewN m) fun e w' => e = .returned (.int .i64 ((al 1).length : Nat)) ∧ ∃ q, w' = wr.drewN q) := fun m => (len_any (w := wr.drewN m) ((unhide HSR).str 1 (by omega))).mono fun e w' ⟨he, hw⟩ => ⟨he, m, hw⟩
          have HQL2 : Hid (∀ m, Calls Tryd.prog 14 #[.pointer none] (wr.drewN m) fun e w' => e = .returned (.int .i64 0) ∧ ∃ q, w' = wr.drewN q) := fun m => (len_nil (wr.drewN m)).mono fun e w' ⟨he, hw⟩ => ⟨he, m, hw⟩
          have HKE : Hid (∀ m, Kept [] w (wr.drewN m)) := fun m => (unhide HSR).kept.drewN m
          have hne2 : ss 0 ≠ ss 1 := (unhide HSR).ne
          clear hv0 hv1 HSR HSUM HV3 HLG hss hss0 hss1
          generalize crc (al 0) = C0 at *
          generalize crc (al 1) = C1 at *
          generalize (al 0).length = N0 at *
          generalize (al 1).length = N1 at *
          generalize ss 0 = S0 at *
          generalize ss 1 = S1 at *
          go_wp2_with fail
          refine (unhide HC0).mono ?_
          rintro e w7 ⟨rfl, hq7⟩
          have hq7' := hq7.symm
          subst hq7'
          go_wp2_with fail
          refine (unhide HC1).mono ?_
          rintro e w8 ⟨rfl, hq8⟩
          have hq8' := hq8.symm
          subst hq8'
          go_wp2_with fail
          go_quiet ((first
            | (go_at_call_of 13 (Value.pointer (some ⟨S0, 0, none⟩)); exact unhide HQS0 _)
            | (go_at_call_of 13 (Value.pointer (some ⟨S1, 0, none⟩)); exact unhide HQS1 _)
            | (go_at_call 13; exact unhide HQS2 _)
            | (go_at_call_of 14 (Value.pointer (some ⟨S0, 0, none⟩)); exact unhide HQL0 _)
            | (go_at_call_of 14 (Value.pointer (some ⟨S1, 0, none⟩)); exact unhide HQL1 _)
            | (go_at_call 14; exact unhide HQL2 _)))
          go_wp2
          go_ret
          exact ⟨rfl, unhide HKE _⟩
end Go.Proofs.YtlcepoomjnpfpaaDoor
