/- LoadApart returns true. -/
import Derived.Test.YthhgeobfolhpoaaVApartP
import Derived.Deep.DeepCutAuto
namespace Go.Proofs.Ythhgeobfolhpoaa
open Go.RowKit

/-- a store of a whole value into the variable that was made last -/
theorem wpList_store_new {P : Program} {w : World} {ops : Array Oper} {rest : List Oper} {o : Oper} {a : Act} {Q : Exit → Act → World → Prop} (p x : Operand) (t : TypeId) (z : Array Value) (cs : List Value)
    (ho : o.op = .store t p x) (hgd : o.guard = none) (hp : a.eval p = .pointer (some ⟨w.heap.size, 0, none⟩)) (hx : a.eval x = .agg cs.toArray)
    (hi : (P.info? t).map (·.size) = some cs.length) (hs : z.size = cs.length) (h1 : ∀ v ∈ cs, v.oneCell' = true)
    (hd : o.dst = none) (h : wpList P ops Q rest a (w.alloc (.cells cs.toArray t))) : wpList P ops Q (o :: rest) a (w.alloc (.cells z t)) := by
  have e : a.put o.dst undef = a := by rw [hd]; rfl
  refine wpList_plain hgd fun K hK => ?_
  unfold Oper.wp execOp
  simp only [ho, Sem.run_bind, Sem.run_pure, Result.andThen_ok, hp, hx, run_storeAt_new w t z cs.toArray (by simpa using hi) (by simpa using hs) (all_oneCell_toArray h1)]
  exact hK _ _ (by rw [e]; exact h)

def zop : List Value := [.int .i64 0, .int .i64 0, .int .i64 0, .int .i64 0, .int .u64 0]
theorem zeroOp (w : World) : (zeroValue 36).run Try.prog w = .ok (.agg zop.toArray) w := by kernel_rfl
theorem oc_one (o : OpM) : ∀ v ∈ oc o, v.oneCell' = true := by
  intro v hv
  simp [oc] at hv
  rcases hv with rfl | rfl | rfl | rfl | rfl <;> rfl
theorem of_good {m : Mt} (h : m.ok) (s : Int) : good (m.of s) := by
  unfold Mt.of
  split
  · exact Nat.zero_le _
  · exact (h.lo _).good

set_option maxRecDepth 100000 in
set_option maxHeartbeats 4000000 in
theorem apart_no {w : World} {v : Value} {s h : Int} (hx : ¬ fits s h) (sh : Int) : Calls Try.prog 5 #[.int .i64 s, .int .i64 h, v, .int .i64 sh] w fun e w' => e = .returned (.bool true) ∧ Kept [] w w' := by
  have HKN := hide (known_any w)
  have HMD := fun W => hide (made_no (w := W) v hx)
  have HNW := fun W => hide (new_no W hx)
  have HFT := fun W => hide (fit_any W s h)
  rw [decide_eq_false hx] at HFT
  have HNM := fun x W => hide (num_any W x)
  clear hx
  go_enter Try.func5, Try.ntmps5
  go_wp2_with (first
    | (go_at_call 14; refine (unhide HKN).mono ?_; rintro e w1 ⟨rfl, hk1⟩; have HK1 := hide hk1; clear HKN hk1)
    | (go_at_call 15; refine (unhide (HMD _)).mono ?_; rintro e w2 ⟨rfl, hq⟩; have hq' := hq.symm; subst hq'; clear HMD)
    | (go_at_call 9; refine (unhide (HNW _)).mono ?_; rintro e w2 ⟨rfl, hq⟩; have hq' := hq.symm; subst hq'; clear HNW)
    | (go_at_call 16; refine (unhide (HFT _)).mono ?_; rintro e w2 ⟨rfl, hq⟩; have hq' := hq.symm; subst hq'; clear HFT)
    | (go_at_call 11; refine (unhide (HNM _ _)).mono ?_; rintro e w2 ⟨rfl, hq⟩; have hq' := hq.symm; subst hq'))
  go_ret
  exact ⟨rfl, unhide HK1⟩

set_option maxRecDepth 100000 in
set_option maxHeartbeats 20000000 in
theorem apart_yes {w : World} {v : Value} {os : List OpM} (hv : Ops w v os) {s h : Int} (hx : fits s h) (sh : Int) : Calls Try.prog 5 #[.int .i64 s, .int .i64 h, v, .int .i64 sh] w fun e w' => e = .returned (.bool true) ∧ Kept [] w w' := by
  have HV := hide hv
  have HKN := hide (known_any w)
  have HMD := hide (fun W (hk : Kept [] w W) => made_yes (hv.kept hk) hx)
  have HNW := fun W => hide (new_yesI W hx)
  have HNM := fun x W => hide (num_any W x)
  obtain ⟨pa, pcap, rfl, hlen, -⟩ := hv
  have HL0 : Hid ((Mt.new s.toNat h.toNat).loads.length = s.toNat) := by unfold Hid; simp [Mt.new]
  have HLS : Hid (s = ((s.toNat : Nat) : Int)) := by unfold Hid fits at *; omega
  obtain ⟨L, hL⟩ : ∃ L, s.toNat = L := ⟨_, rfl⟩
  generalize hm0 : Mt.new s.toNat h.toNat = m0 at *
  rw [hL] at HL0 HLS
  clear hL
  obtain ⟨n, hn⟩ : ∃ n, os.length = n := ⟨_, rfl⟩
  rw [hn] at hlen HV HMD ⊢
  have HN := hide hn
  clear hn hm0
  go_enter Try.func5, Try.ntmps5
  go_wp2_with (first
    | (go_at_call 14; refine (unhide HKN).mono ?_; rintro e w1 ⟨rfl, hk1⟩; have HK1 := hide hk1; clear HKN hk1)
    | (go_at_call 15; refine (unhide HMD _ (unhide HK1)).mono ?_; rintro e w2 ⟨b, g, rfl, hm2, hk2, hb2, hg2⟩; have HS := hide (show St w w2 b g (runO m0 os) from ⟨hm2, (unhide HK1).trans hk2 (fun _ hx => by cases hx), Nat.le_trans (unhide HK1).size hb2, Nat.le_trans (unhide HK1).size hg2⟩); clear HMD HK1 hm2 hk2 hb2 hg2)
    | (go_at_call 9; refine (unhide (HNW _)).mono ?_; rintro e w3 ⟨b3, g3, rfl, hm3, hk3, hb3, hg3⟩
       have HA := hide (show b < b3 ∧ b < g3 ∧ g < b3 ∧ g < g3 from ⟨Nat.lt_of_lt_of_le (unhide HS).mp.head.lt hb3, Nat.lt_of_lt_of_le (unhide HS).mp.head.lt hg3, Nat.lt_of_lt_of_le (unhide HS).mp.row.lt hb3, Nat.lt_of_lt_of_le (unhide HS).mp.row.lt hg3⟩)
       have HU := hide (show St w w3 b3 g3 m0 from ⟨hm3, (unhide HS).kept.trans hk3 (fun _ hx => by cases hx), Nat.le_trans (unhide HS).kept.size hb3, Nat.le_trans (unhide HS).kept.size hg3⟩)
       have HT := hide ((unhide HS).quiet hk3)
       clear HNW hm3 hk3 hb3 hg3 HS
       have HS := HT
       clear HT)
    | (go_at_call 11; refine (unhide (HNM _ _)).mono ?_; rintro e w2 ⟨rfl, hq⟩; have hq' := hq.symm; subst hq'))
  have HF := kf
  clear HNM hx
  go_loopw [13] (fun i wr => ∃ (k : Nat) (nk : Mt), k ≤ n ∧ i = .int .i64 (k : Int) ∧ St w wr b g (runO m0 os) ∧ St w wr b3 g3 nk ∧ Rel sh (runO m0 (os.take k)) nk ∧ nk.loads.length = L) (fun i _ => n - (intOf i).toNat)
  case atStart => exact ⟨0, m0, by omega, rfl, unhide HS, unhide HU, by rw [List.take_zero]; exact Rel.refl _ _, unhide HL0⟩
  case round =>
    obtain ⟨k, nk, hk, rfl, hs, hu, hrl, hlk⟩ := hrel
    by_cases hlt : k < n
    · have hkn : k < os.length := by rw [unhide HN]; exact hlt
      obtain ⟨o, ho⟩ : ∃ o, os[k]? = some o := ⟨os[k], List.getElem?_eq_getElem hkn⟩
      obtain ⟨pa', pc', hv', -, hall⟩ := (unhide HV).kept hs.kept
      have hpa : pa = pa' := by cases hv'; rfl
      subst hpa
      obtain ⟨hw64, ob, off, hpa, hbl, hrg⟩ := hall k o ho
      subst hpa
      have HR := hide hrg
      have HE := hide (run_take (m := m0) ho)
      have HRL := hide hrl
      have HLK := hide hlk
      obtain ⟨W, hW⟩ : ∃ W, W = wr.alloc (.cells (oc o).toArray 36) := ⟨_, rfl⟩
      have HW := hide hW
      have hka : Kept [] wr W := by rw [hW]; exact (Kept.refl _ _).alloc _
      have hNB : Blk W wr.heap.size (oc o).toArray 36 := by rw [hW]; exact Blk.new _ _ _
      have d0 : W.cell? ⟨wr.heap.size, 0, none⟩ = some (.int .i64 o.kind) := by rw [hNB.cell]; simp [oc]
      have d2 : W.cell? ⟨wr.heap.size, 2, none⟩ = some (.int .i64 o.shard) := by rw [hNB.cell]; simp [oc]
      have d4 : W.cell? ⟨wr.heap.size, 4, none⟩ = some (.int .u64 (o.wt : Int)) := by rw [hNB.cell]; simp [oc]
      have HF0 := hide (hNB.frozen 0)
      have HNB1 : Hid (W.rangeAt wr.heap.size 0 (oc o)) := fun j v hv => by rw [Nat.zero_add, hNB.cell]; simpa using hv
      have hNB2 := hNB.set 0 (.int .i64 2)
      have HNB2 : Hid ((W.setCell ⟨wr.heap.size, 0, none⟩ (.int .i64 2)).rangeAt wr.heap.size 0 (oc { o with kind := 2 })) := fun j v hv => by rw [Nat.zero_add, hNB2.cell]; simpa [oc] using hv
      have HS2 := hide (hs.quiet hka)
      have HU2 := hide (hu.quiet hka)
      have hbn := hu.mp.head.lt
      have hgn := hu.mp.row.lt
      have hk3 : Kept [wr.heap.size] W (W.setCell ⟨wr.heap.size, 0, none⟩ (.int .i64 2)) := (Kept.refl _ _).setCell (p := ⟨wr.heap.size, 0, none⟩) (Or.inl (by simp)) _
      have hk3' : Kept [] wr (W.setCell ⟨wr.heap.size, 0, none⟩ (.int .i64 2)) := hka.trans hk3 (fun x hx => by simp at hx; exact Or.inr (by omega))
      have HU3 := hide (hu.quiet hk3')
      have HST0 := hide (fun (o' : OpM) W' (hW' : St w W' b3 g3 nk) (h64 : o'.wt < 18446744073709551616) => set_any hW'.mp o' h64)
      replace HST0 := hide (fun (o' : OpM) W' (hW' : St w W' b3 g3 nk) (h64 : o'.wt = o.wt) => unhide HST0 o' W' hW' (by rw [h64]; exact hw64))
      have hAA := unhide HA
      have HFS := hide (fun W0 W4 (h0 : St w W0 b g (runO m0 os)) (hk4 : Kept [b3, g3] W0 W4) => (⟨h0.mp.kept hk4 (by simp; omega) (by simp; omega), h0.kept.trans hk4 (fun x hx => by
          simp at hx
          rcases hx with rfl | rfl
          · exact Or.inr hu.hb
          · exact Or.inr hu.hg), h0.hb, h0.hg⟩ : St w W4 b g (runO m0 os)))
      have HFU := hide (fun W0 W4 m4 (h0 : St w W0 b3 g3 nk) (hm4 : Mp W4 b3 g3 m4) (hk4 : Kept [b3, g3] W0 W4) => h0.on hm4 hk4)
      have HS3 := hide (hs.quiet hk3')
      clear hs hu hrl hlk hall hrg hv' hkn hbl hW hka hNB hNB2 hbn hgn hk3 hk3' hAA
      go_upto_region 11 with (first
        | (guard_target =~ wpList _ _ _ _ _ _; refine wpList_load_mid rfl 36 _ rfl ob (off + k * 5) rfl (oc o) _ (unhide HR) Try.underlying36 rfl sizeOp ?_)
        | (guard_target =~ wpList _ _ _ _ _ _; refine wpList_alloc_z 36 zop rfl rfl zeroOp ?_)
        | (guard_target =~ wpList _ _ _ _ _ _; refine wpList_store_new _ _ 36 zop.toArray (oc o) rfl rfl rfl rfl sizeOp rfl (oc_one o) rfl ?_; rw [← unhide HW]))
      simp only [Act.put, List.setIfInBounds_toArray, List.set_cons_succ, List.set_cons_zero]
      by_cases hA : o.kind = 1 ∧ o.shard ≠ sh
      · obtain ⟨hA1, hA2⟩ := hA
        have HSD := hide (show side sh L o nk = (if o.shard < 0 ∨ (L : Int) ≤ o.shard ∨ ¬ wok o.wt then nk else nk.onGo o.now) from if_pos ⟨hA1, hA2⟩)
        rw [hA1] at d0
        have v1 : (o.shard = sh) = False := by simp; exact hA2
        have v2 : (o.shard == sh) = false := by simp; exact hA2
        by_cases h1 : o.shard < 0
        · have HSK : Hid (side sh L o nk = nk) := by unfold Hid; rw [unhide HSD, if_pos (Or.inl h1)]
          have t1 : (o.shard < 0) = True := by simp; exact h1
          clear HST0 h1 hA1 hA2 HSD
          obtain ⟨sx, hsx⟩ : ∃ sx, o.shard = sx := ⟨_, rfl⟩
          rw [hsx] at d2 t1 v1 v2
          clear hsx
          go_wp2_with fail
          exact ⟨⟨k + 1, nk, by omega, by simp, unhide HS2, unhide HU2, by rw [unhide HE]; have := (unhide HRL).side o; rw [unhide HLK, unhide HSK] at this; exact this, unhide HLK⟩, by simp [intOf]; omega⟩
        · have t1 : (o.shard < 0) = False := by simp; omega
          by_cases h2 : (L : Int) ≤ o.shard
          · have HSK : Hid (side sh L o nk = nk) := by unfold Hid; rw [unhide HSD, if_pos (Or.inr (Or.inl h2))]
            have t2 : (s ≤ o.shard) = True := by simp; rw [unhide HLS]; exact h2
            clear HST0 h1 h2 hA1 hA2 HSD
            obtain ⟨sx, hsx⟩ : ∃ sx, o.shard = sx := ⟨_, rfl⟩
            rw [hsx] at d2 t1 t2 v1 v2
            clear hsx
            go_wp2_with fail
            exact ⟨⟨k + 1, nk, by omega, by simp, unhide HS2, unhide HU2, by rw [unhide HE]; have := (unhide HRL).side o; rw [unhide HLK, unhide HSK] at this; exact this, unhide HLK⟩, by simp [intOf]; omega⟩
          · have t2 : (s ≤ o.shard) = False := by simp; rw [unhide HLS]; omega
            by_cases h3 : wok o.wt
            · have HSK : Hid (side sh L o nk = nk.onGo o.now) := by unfold Hid; rw [unhide HSD, if_neg (by rintro (e | e | e); exact h1 e; exact h2 e; exact e h3)]
              obtain ⟨t3, -⟩ := ge_wok h3
              have t4 := gt_wok h3
              have HST := hide (unhide HST0 { o with kind := 2 } (W.setCell ⟨wr.heap.size, 0, none⟩ (.int .i64 2)) (unhide HU3) rfl)
              have HNB := HNB2
              have f0 := unhide HF0
              clear HST0 h1 h2 h3 hA1 hA2 HSD
              obtain ⟨sx, hsx⟩ : ∃ sx, o.shard = sx := ⟨_, rfl⟩
              rw [hsx] at d2 t1 t2 v1 v2
              clear hsx
              go_wp2_with (first
          | (guard_target =~ wpList _ _ _ _ _ _; refine wpList_load_mid rfl 36 _ rfl wr.heap.size 0 rfl (oc { o with kind := 2 }) _ (unhide HNB) Try.underlying36 rfl sizeOp ?_)
          | (go_at_call 25; refine (unhide HST).mono ?_; rintro e w4 ⟨rfl, hm4, hk4⟩; have HM4 := hide hm4; have HK4 := hide hk4; clear HST hm4 hk4))
              exact ⟨⟨k + 1, nk.onGo o.now, by omega, by simp, (unhide HFS) _ _ (unhide HS3) (unhide HK4), (unhide HFU) _ _ _ (unhide HU3) (unhide HM4) (unhide HK4), by rw [unhide HE]; have := (unhide HRL).side o; rw [unhide HLK, unhide HSK] at this; exact this, by have := side_len sh L o nk; rw [unhide HSK] at this; rw [this]; exact unhide HLK⟩, by simp [intOf]; omega⟩
            · have HSK : Hid (side sh L o nk = nk) := by unfold Hid; rw [unhide HSD, if_pos (Or.inr (Or.inr h3))]
              rcases ge_unwok h3 hw64 with t3 | ⟨t3, -, t4⟩
              · clear HST0 h1 h2 h3 hA1 hA2 HSD
                obtain ⟨sx, hsx⟩ : ∃ sx, o.shard = sx := ⟨_, rfl⟩
                rw [hsx] at d2 t1 t2 v1 v2
                clear hsx
                go_wp2_with fail
                exact ⟨⟨k + 1, nk, by omega, by simp, unhide HS2, unhide HU2, by rw [unhide HE]; have := (unhide HRL).side o; rw [unhide HLK, unhide HSK] at this; exact this, unhide HLK⟩, by simp [intOf]; omega⟩
              · clear HST0 h1 h2 h3 hA1 hA2 HSD
                obtain ⟨sx, hsx⟩ : ∃ sx, o.shard = sx := ⟨_, rfl⟩
                rw [hsx] at d2 t1 t2 v1 v2
                clear hsx
                go_wp2_with fail
                exact ⟨⟨k + 1, nk, by omega, by simp, unhide HS2, unhide HU2, by rw [unhide HE]; have := (unhide HRL).side o; rw [unhide HLK, unhide HSK] at this; exact this, unhide HLK⟩, by simp [intOf]; omega⟩
      · have HSK : Hid (side sh L o nk = o.on nk) := if_neg hA
        have HST := hide (unhide HST0 o W (unhide HU2) rfl)
        have HNB := HNB1
        by_cases hA1 : o.kind = 1
        · have hA2 : o.shard = sh := Decidable.not_not.1 fun e => hA ⟨hA1, e⟩
          have HA2 := hide hA2
          rw [hA1] at d0
          rw [hA2] at d2
          clear HST0 hA hA1 hA2
          go_wp2_with (first
          | (guard_target =~ wpList _ _ _ _ _ _; refine wpList_load_mid rfl 36 _ rfl wr.heap.size 0 rfl (oc o) _ (unhide HNB) Try.underlying36 rfl sizeOp ?_)
          | (go_at_call 25; refine (unhide HST).mono ?_; rintro e w4 ⟨rfl, hm4, hk4⟩; have HM4 := hide hm4; have HK4 := hide hk4; clear HST hm4 hk4))
          exact ⟨⟨k + 1, o.on nk, by omega, by simp, (unhide HFS) _ _ (unhide HS2) (unhide HK4), (unhide HFU) _ _ _ (unhide HU2) (unhide HM4) (unhide HK4), by rw [unhide HE]; have := (unhide HRL).side o; rw [unhide HLK, unhide HSK] at this; exact this, by have := side_len sh L o nk; rw [unhide HSK] at this; rw [this]; exact unhide HLK⟩, by simp [intOf]; omega⟩
        · have v1 : (o.kind = 1) = False := by simp; exact hA1
          have v2 : (o.kind == 1) = false := by simp; exact hA1
          clear HST0 hA hA1
          obtain ⟨kx, hkx⟩ : ∃ kx, o.kind = kx := ⟨_, rfl⟩
          rw [hkx] at d0 v1 v2
          clear hkx
          go_wp2_with (first
          | (guard_target =~ wpList _ _ _ _ _ _; refine wpList_load_mid rfl 36 _ rfl wr.heap.size 0 rfl (oc o) _ (unhide HNB) Try.underlying36 rfl sizeOp ?_)
          | (go_at_call 25; refine (unhide HST).mono ?_; rintro e w4 ⟨rfl, hm4, hk4⟩; have HM4 := hide hm4; have HK4 := hide hk4; clear HST hm4 hk4))
          exact ⟨⟨k + 1, o.on nk, by omega, by simp, (unhide HFS) _ _ (unhide HS2) (unhide HK4), (unhide HFU) _ _ _ (unhide HU2) (unhide HM4) (unhide HK4), by rw [unhide HE]; have := (unhide HRL).side o; rw [unhide HLK, unhide HSK] at this; exact this, by have := side_len sh L o nk; rw [unhide HSK] at this; rw [this]; exact unhide HLK⟩, by simp [intOf]; omega⟩
    · obtain rfl : k = n := by omega
      have HRR : Hid (Rel sh (runO m0 os) nk) := by
        have := hrl
        rw [← unhide HN, List.take_length] at this
        exact this
      have HS2 := hide hs
      have HU2 := hide hu
      have HO1 := hide (fun W (hq : Quiet wr W) => of_any (hs.mp.quiet hq) sh)
      have HO2 := hide (fun W (hq : Quiet wr W) => of_any (hu.mp.quiet hq) sh)
      rw [(unhide HRR).of] at HO1
      have HLI := fun W => hide (like_same W (x := nk.of sh) (of_good hu.mp.ok sh))
      clear hs hu hrl
      go_wp2_with (first
        | (go_at_call 20; refine (unhide HO1 _ (by first | exact Quiet.refl _ | exact (Quiet.refl _).drew)).mono ?_; rintro e w5 ⟨rfl, hq⟩; have hq' := hq.symm; subst hq'; clear HO1)
        | (go_at_call 20; refine (unhide HO2 _ (by first | exact Quiet.refl _ | exact (Quiet.refl _).drew)).mono ?_; rintro e w5 ⟨rfl, hq⟩; have hq' := hq.symm; subst hq'; clear HO2)
        | (go_at_call 19; refine (unhide (HLI _)).mono ?_; rintro e w5 ⟨rfl, hq⟩; have hq' := hq.symm; subst hq'; clear HLI))
      go_ret
      exact ⟨rfl, (unhide HS2).kept⟩
end Go.Proofs.Ythhgeobfolhpoaa
