/- DiskCrash, as a walk. -/
import Derived.Test.YtfaoblnghkiibaaQLaid
namespace Go.Proofs.Ytfaoblnghkiibaa
open Go.RowKit

/-- rows of bytes that came in -/
def Rows2 (w : World) (v : Value) (rows : List (List Nat)) : Prop :=
  ∃ a cap, v = .slice a rows.length cap ∧ rows.length ≤ 9223372036854775807 ∧ ∀ (j : Nat) (l : List Nat), rows[j]? = some l → ∃ b off dv, a = some ⟨b, off, none⟩ ∧ b < w.heap.size ∧ w.cell? ⟨b, off + j, none⟩ = some dv ∧ Sees w dv l
theorem Rows2.kept {w w' : World} {v : Value} {rows : List (List Nat)} (h : Rows2 w v rows) (hk : Kept [] w w') : Rows2 w' v rows := by
  obtain ⟨a, cap, rfl, h1, h2⟩ := h
  refine ⟨a, cap, rfl, h1, fun j l hl => ?_⟩
  obtain ⟨b, off, dv, rfl, h3, h4, h5⟩ := h2 j l hl
  exact ⟨b, off, dv, rfl, Nat.lt_of_lt_of_le h3 hk.size, (hk.cell (p := ⟨b, off + j, none⟩) h3 (by simp)).trans h4, h5.kept hk (Or.inr (by simp))⟩
theorem ints_at' {w : World} {v : Value} {l : List Int} (h : SeesI w v l) {j : Nat} (hj : j < l.length) : ∃ b off cap, v = .slice (some ⟨b, off, none⟩) l.length cap ∧ b < w.heap.size ∧ w.cell? ⟨b, off + j, none⟩ = some (.int .i64 (l.getD j 0)) := by
  obtain ⟨a, cap, rfl, _, _, h4⟩ := h
  rcases h4 with h4 | ⟨b, off, rfl, h5, h6⟩
  · rw [h4] at hj; simp at hj
  · exact ⟨b, off, cap, rfl, h5, h6 j hj⟩
/-- the disk keeps standing where its blocks are left alone -/
theorem Stand.left {w1 w w' : World} {b : Nat} {F G : List Nat} {d : Dm} (h : Stand w1 b F d w) (hk : Kept G w w') (hF : ∀ x ∈ F, x ∉ G) (hG : ∀ x ∈ G, w1.heap.size ≤ x) : Stand w1 b F d w' :=
  ⟨h.dk.keep hk hF, ⟨h.nx.kept.trans hk (fun x hx => Or.inr (hG x hx)), h.nx.sub⟩⟩
theorem Stand.next {w1 w w' : World} {b : Nat} {F F' : List Nat} {d d' : Dm} (h : Stand w1 b F d w) (hd : Dk w' b F' d') (hn : Nx F w F' w') : Stand w1 b F' d' w' := ⟨hd, h.nx.trans hn⟩
theorem lent_new {w : World} {v : Value} {bs : List Nat} (hs : Sees w v bs) (hl : bs.length = 64) :
    Calls Try.prog 8 #[v] w fun e w' => ∃ g cap, e = .returned (.slice (some ⟨g, 0, none⟩) 64 cap) ∧ Sees w' (.slice (some ⟨g, 0, none⟩) 64 cap) bs ∧ w.heap.size ≤ g ∧ g < w'.heap.size ∧ Kept [] w w' := by
  refine (lent_any hs (by omega)).mono ?_
  rintro e w' ⟨g, cap, rfl, h1, h2⟩
  rw [hl] at h1 ⊢
  exact ⟨g, cap, rfl, h1.sees, h1.caps.2.2.1, h1.caps.2.2.2, h2⟩
theorem sees_two (w : World) : SeesB (w.alloc (.cells #[.bool true, .bool true] 4)) (.slice (some ⟨w.heap.size, 0, none⟩) 2 2) [true, true] := by
  refine ⟨_, 2, rfl, by simp, fun k hk => ⟨w.heap.size, 0, rfl, by simp, ?_⟩⟩
  have : k = 0 ∨ k = 1 := by simp at hk; omega
  rw [(Blk.new w #[.bool true, .bool true] 4).cell]
  rcases this with rfl | rfl <;> simp
theorem fresh_n (n : Nat) (s : List Nat) : (fresh n s).n = n := rfl

set_option maxRecDepth 100000 in
set_option maxHeartbeats 16000000 in
theorem crash_walk {w : World} {wv pv sv kv : Value} {rows : List (List Nat)} {pl : List Int} {ss ks : List Bool} (hw : Rows2 w wv rows) (hp : SeesI w pv pl) (hs : SeesB w sv ss) (hk : SeesB w kv ks) (hrl : rows.length ≤ 1000000000) (sec fu torn cut : Int) (hfu : fu ≤ 9223372036854775807) :
    Calls Try.prog 5 #[.int .i64 sec, .int .i64 fu, wv, pv, sv, kv, .int .i64 torn, .int .i64 cut] w fun e w' => e = .returned (.bool true) ∧ Kept [] w w' := by
  have HNUM := hide num_any
  have HW := hide hw
  have HP := hide hp
  have HS := hide hs
  have HK := hide hk
  obtain ⟨wa, wcp, rfl, hwm, -⟩ := hw
  obtain ⟨pa, pcp, rfl, hpm, hpm2, -⟩ := hp
  have hpm3 : pl.length ≤ 9223372036854775807 := by unfold maxLen at hpm2; omega
  obtain ⟨sa, scp, rfl, hsm, -⟩ := hs
  obtain ⟨ka, kcp, rfl, hkm, -⟩ := hk
  clear hpm hpm2
  generalize hLW : rows.length = LW at *
  generalize hLP : pl.length = LP at *
  generalize hLS : ss.length = LS at *
  generalize hLK : ks.length = LK at *
  have HLEN := hide (⟨hLW, hLP, hLS, hLK⟩ : _ ∧ _ ∧ _ ∧ _)
  clear hLW hLP hLS hLK
  by_cases hbad : sec < 1 ∨ 65536 < sec
  · have HN := hide (fun w => new_no (w := w) hbad)
    by_cases h1 : sec < 1
    · have t1 : (sec < 1) = True := by simp; omega
      clear hbad h1
      go_enter Try.func5, Try.ntmps5
      go_wp2_with (first
        | (go_at_call 17; refine (known_any w).mono ?_; rintro e w1 ⟨rfl, hk1⟩; have HK1 := hide hk1; clear hk1)
        | (go_at_call 9; refine (unhide HN _).mono ?_; rintro e wq ⟨rfl, hq⟩; have hq' := hq.symm; subst hq'; clear hq HN)
        | (go_at_call 13; refine (unhide HNUM _ _).mono ?_; rintro e wq ⟨rfl, hq⟩; have hq' := hq.symm; subst hq'; clear hq))
      go_ret
      exact ⟨rfl, unhide HK1⟩
    · have t1 : (sec < 1) = False := by simp; omega
      have t2 : ((65536 : Int) < sec) = True := by simp; omega
      clear hbad h1
      go_enter Try.func5, Try.ntmps5
      go_wp2_with (first
        | (go_at_call 17; refine (known_any w).mono ?_; rintro e w1 ⟨rfl, hk1⟩; have HK1 := hide hk1; clear hk1)
        | (go_at_call 9; refine (unhide HN _).mono ?_; rintro e wq ⟨rfl, hq⟩; have hq' := hq.symm; subst hq'; clear hq HN)
        | (go_at_call 13; refine (unhide HNUM _ _).mono ?_; rintro e wq ⟨rfl, hq⟩; have hq' := hq.symm; subst hq'; clear hq))
      go_ret
      exact ⟨rfl, unhide HK1⟩
  · obtain ⟨n, rfl⟩ : ∃ n : Nat, sec = (n : Int) := ⟨sec.toNat, by omega⟩
    have hn1 : 1 ≤ n := by omega
    have hn2 : n ≤ 65536 := by omega
    have HN := hide (fun w => new_yes (w := w) hn1 hn2)
    clear hbad
    by_cases hn64 : 64 < n
    · have t1 : ((64 : Int) < (n : Int)) = True := by simp; omega
      clear hn64
      go_enter Try.func5, Try.ntmps5
      go_wp2_with (first
        | (go_at_call 17; refine (known_any w).mono ?_; rintro e w1 ⟨rfl, hk1⟩; have HK1 := hide hk1; clear hk1)
        | (go_at_call 9; refine (unhide HN _).mono ?_; rintro e w2 ⟨b, F, rfl, hd, hnx⟩; have HK2 := hide hnx.kept; clear hd hnx HN)
        | (go_at_call 13; refine (unhide HNUM _ _).mono ?_; rintro e wq ⟨rfl, hq⟩; have hq' := hq.symm; subst hq'; clear hq))
      go_ret
      exact ⟨rfl, (unhide HK1).trans (unhide HK2) (by simp)⟩
    · have t1 : ((64 : Int) < (n : Int)) = False := by simp; omega
      have hn3 : n ≤ 64 := by omega
      clear hn64
      go_enter Try.func5, Try.ntmps5
      go_wp2_with (first
        | (go_at_call 17; refine (known_any w).mono ?_; rintro e w1 ⟨rfl, hk1⟩; have HK1 := hide hk1; clear hk1)
        | (go_at_call 9; refine (unhide HN _).mono ?_; rintro e w2 ⟨b, F, rfl, hd, hnx⟩; have HST2 : Hid (Stand w1 b F (fresh n (List.replicate (64 * n) 0)) w2) := ⟨hd, hnx⟩; clear hd hnx HN; have HFU := hide (fuse_any (unhide HST2).dk fu hfu))
        | (go_at_call 18; refine (unhide HFU).mono ?_; rintro e w3 ⟨rfl, hd, hnx⟩; have HST3 := hide ((unhide HST2).next hd hnx); clear hd hnx HFU HST2)
        | (go_at_call 13; refine (unhide HNUM _ _).mono ?_; rintro e wq ⟨rfl, hq⟩; have hq' := hq.symm; subst hq'; clear hq))
      have HW1 := hide ((unhide HW).kept (unhide HK1))
      have HP1 := hide ((unhide HP).kept (unhide HK1) (Or.inr (by simp)))
      have HS1 := hide ((unhide HS).keptE (unhide HK1))
      have HKK := hide ((unhide HK).keptE (unhide HK1))
      go_loopw [19, 20] (fun rv i wr => ∃ (j : Nat) (F : List Nat) (d : Dm) (vs : List Value), j ≤ LW ∧ j ≤ LP ∧ i = .int .i64 j ∧ (∃ a c, rv = .slice a d.pend.length c) ∧ Stand w1 b F d wr ∧ LR w1.heap.size wr F rv d.pend vs ∧ d.pend.length ≤ j ∧ d.n = n) (fun _ i _ => LW - (intOf i).toNat)
      case atStart => exact ⟨0, F, _, [], by omega, by omega, rfl, ⟨_, _, rfl⟩, unhide HST3, LR.nil _ _ _, by simp [Dm.setFuse, fresh], rfl⟩
      case round =>
        clear HST3
        obtain ⟨j, F, d, vs, hjw, hjp, rfl, ⟨ra, rcp, rfl⟩, hst, hlr, hpl, hdn⟩ := hrel
        by_cases hjj : j < LW ∧ j < LP
        · obtain ⟨hj1, hj2⟩ := hjj
          obtain ⟨l, hl⟩ : ∃ l, rows[j]? = some l := ⟨_, List.getElem?_eq_getElem (by rw [(unhide HLEN).1]; exact hj1)⟩
          obtain ⟨wa', wc', hwe, -, hwr⟩ := unhide HW1
          injection hwe with e1 e2 e3
          subst e1
          obtain ⟨wb, wo, dv, rfl, hwb, hwc, hdv⟩ := hwr j l hl
          obtain ⟨pb, po, pc', hpe, hpb, hpc⟩ := ints_at' (unhide HP1) (j := j) (by rw [(unhide HLEN).2.1]; exact hj2)
          injection hpe with e4 e5 e6
          subst e4
          generalize pl.getD j 0 = x at hpc
          have hkw := hst.nx.kept
          have HAW : Hid (wb ∉ F ∧ pb ∉ F) := ⟨hst.away hwb, hst.away hpb⟩
          have HBL : Hid (wb < w1.heap.size ∧ pb < w1.heap.size) := ⟨hwb, hpb⟩
          have p1 := (hkw.cell (p := ⟨pb, po + j, none⟩) hpb (by simp)).trans hpc
          have p2 := (hkw.cell (p := ⟨wb, wo + j, none⟩) hwb (by simp)).trans hwc
          obtain ⟨da, dn, dc, hdd⟩ : ∃ a n c, dv = .slice a n c := by obtain ⟨a, c, rfl, _⟩ := hdv; exact ⟨_, _, _, rfl⟩
          subst hdd
          have HDV := hide (hdv.kept hkw (Or.inr (by simp)))
          have HDL : Hid (l.length = 64 → ∀ q, (Value.slice da dn dc).ownBlock = some q → q < w1.heap.size) := by
            intro hl q hq
            obtain ⟨a, cap, hv, _, _, _, h4⟩ := hdv
            rcases h4 with h4 | ⟨b5, o5, rfl, h5, _⟩
            · rw [h4] at hl; simp at hl
            · rw [hv] at hq
              simp [Value.ownBlock] at hq
              omega
          have HST := hide hst
          have HSTD := hide (hst.quiet (Kept.refl [] wr).drew)
          have HLR := hide hlr
          have HDN := hide hdn
          have u1 : (j : Int) < (LW : Int) := by omega
          have u2 : (j : Int) < (LP : Int) := by omega
          have HPL : Hid ((d.pend.length + 1) * 72 ≤ 140737488355328) := by unfold Hid; omega
          clear hst hlr hwr hwb hpb hwc hpc hdv hkw hl e2 e3 e5 e6 hdn
          by_cases hz : wE d x l.length = 0
          · obtain ⟨hz1, hz2⟩ := wE_zero hz
            obtain ⟨xk, rfl, -, -⟩ := rE_zero hz1
            have HOP := hide (write_yes (unhide HSTD).dk hz1 ((unhide HDV).kept (Kept.refl [] wr).drew (Or.inr (by simp))) hz2 (fun p hp => (unhide HST).away (unhide HDL hz2 p hp)) (unhide HPL))
            have HZ2 := hide hz2
            clear hz hz1 hz2
            go_wp2_with fail
            go_region_held3 (fun w' => w'.cell? ⟨pb, po + j, none⟩ = some (.int .i64 (xk : Int)) ∧ w'.cell? ⟨wb, wo + j, none⟩ = some (.slice da dn dc)) (go_keep)
              (first | (go_at_call 19; refine (unhide HOP).mono ?_; rintro e w4 ⟨F4, rfl, hd4, hn4⟩; have p3 := (hn4.kept.cell (p := ⟨pb, po + j, none⟩) (Nat.lt_of_lt_of_le (unhide HBL).2 (unhide HST).nx.kept.size) (unhide HAW).2).trans p1; have p4 := (hn4.kept.cell (p := ⟨wb, wo + j, none⟩) (Nat.lt_of_lt_of_le (unhide HBL).1 (unhide HST).nx.kept.size) (unhide HAW).1).trans p2; have HST4 := hide ((unhide HSTD).next hd4 hn4); have HLR4 := hide (((unhide HLR).kept (Kept.refl [] wr).drew).disk hn4); have HDV4 := hide (((unhide HDV).kept (Kept.refl [] wr).drew (Or.inr (by simp))).kept hn4.kept (Or.inr fun p hp => (unhide HST).away (unhide HDL (unhide HZ2) p hp))); clear hd4 hn4 HOP))
            have HLT := hide (lent_new ((unhide HDV4).kept (Kept.refl [] w4).drew (Or.inr (by simp))) (unhide HZ2))
            go_wp2_with (first | (go_at_call 13; refine (unhide HNUM _ _).mono ?_; rintro e wq ⟨rfl, hq⟩; have hq' := hq.symm; subst hq'; clear hq))
            go_region_held3 (fun w' => w'.cell? ⟨pb, po + j, none⟩ = some (.int .i64 (xk : Int)) ∧ w'.cell? ⟨wb, wo + j, none⟩ = some (.slice da dn dc)) (first | go_keep)
              (first
                | (go_at_call 8; refine (unhide HLT).mono ?_; rintro e w5 ⟨g5, c5, rfl, hs5, hg5, hg5l, hk5⟩; have p5 := (hk5.cell (p := ⟨pb, po + j, none⟩) (Nat.lt_of_lt_of_le (unhide HBL).2 (unhide HST4).nx.kept.size) (by simp)).trans p3; have p6 := (hk5.cell (p := ⟨wb, wo + j, none⟩) (Nat.lt_of_lt_of_le (unhide HBL).1 (unhide HST4).nx.kept.size) (by simp)).trans p4; have HST5 := hide (((unhide HST4).quiet (Kept.refl [] w4).drew).quiet hk5); have HLR5 := hide (((unhide HLR4).kept (Kept.refl [] w4).drew).kept hk5); obtain ⟨a6, c6, w6, hap, hlr6, hk6⟩ := laid_append (k := xk) (unhide HLR5) (unhide HST5).dk.lt (unhide HST5).nx.kept.size hs5 ((unhide HST4).new hg5) (fun e => by have := ((unhide HLR4).own.lt g5 e).2; have hg5' : w4.heap.size ≤ g5 := hg5; omega) hg5l (by have := unhide HPL; omega) 58; have HAP := hide hap; have HST6 := hide ((unhide HST5).left hk6 (fun y hy hm => by simp at hm; exact (unhide HLR5).row y hm hy) (fun y hy => by simp at hy; exact ((unhide HLR5).own.lt y hy).1)); have HLR6 := hide hlr6; have p7 := (hk6.cell (p := ⟨pb, po + j, none⟩) (Nat.lt_of_lt_of_le (unhide HBL).2 (unhide HST5).nx.kept.size) (fun hm => by simp at hm; have := ((unhide HLR5).own.lt pb hm).1; have h9 := (unhide HBL).2; omega)).trans p5; have p8 := (hk6.cell (p := ⟨wb, wo + j, none⟩) (Nat.lt_of_lt_of_le (unhide HBL).1 (unhide HST5).nx.kept.size) (fun hm => by simp at hm; have := ((unhide HLR5).own.lt wb hm).1; have h9 := (unhide HBL).1; omega)).trans p6; clear hap hlr6 hk6 hs5 hg5 hg5l hk5 HLT)
                | (refine step_append_runE (by rfl) _ _ 58 58 (by rfl) _ _ (by rfl) (by rfl) (unhide HAP) ?_))
            obtain ⟨dX, hdX⟩ : ∃ dX, dX = d.write xk l := ⟨_, rfl⟩
            obtain ⟨NX, hNX⟩ : ∃ NX, NX = d.pend.length + 1 := ⟨_, rfl⟩
            have HNX : Hid (dX.pend.length = NX) := by rw [hdX, hNX]; unfold Hid; simp [Dm.write]
            have HSTX : Hid (Stand w1 b F4 dX w6) := by rw [hdX]; exact HST6
            have HLRX : Hid (LR w1.heap.size w6 F4 (.slice a6 NX c6) dX.pend (vs ++ [.slice (some ⟨g5, 0, none⟩) 64 c5])) := by rw [hdX, hNX]; exact HLR6
            have HPLX : Hid (dX.pend.length ≤ j + 1) := by rw [unhide HNX, hNX]; unfold Hid; omega
            have HDNX : Hid (dX.n = n) := by rw [hdX]; exact HDN
            rw [← hNX]
            clear hdX hNX p1 p2 p3 p4 p5 p6
            have HPD := hide (pending_any (unhide HSTX).dk)
            rw [unhide HNX] at HPD
            by_cases hjs : j < LS
            · obtain ⟨sa', scp', hse, -, hsc⟩ := (unhide HS1).keptE (unhide HSTX).nx.kept
              injection hse with e7 e8 e9
              subst e7
              obtain ⟨sb, so, rfl, -, p9⟩ := hsc j (by rw [(unhide HLEN).2.2.1]; exact hjs)
              clear hsc e8 e9
              have u3 : (j : Int) < (LS : Int) := by omega
              cases hb : ss.getD j false with
              | true =>
                rw [hb] at p9
                clear hb
                by_cases hf : dX.fuse = some 0
                · have HSY := hide (sync_no (unhide HSTX).dk hf)
                  clear hf
                  go_wp2_with (first
                    | (go_at_call 22; refine (unhide HSY).mono ?_; rintro e wq ⟨rfl, hq⟩; have hq' := hq.symm; subst hq'; clear hq; clear HSY)
                    | (go_at_call 13; refine (unhide HNUM _ _).mono ?_; rintro e wq ⟨rfl, hq⟩; have hq' := hq.symm; subst hq'; clear hq)
                    | (go_at_call 23; refine (unhide HPD).mono ?_; rintro e wq ⟨rfl, hq⟩; have hq' := hq.symm; subst hq'; clear hq; clear HPD))
                  exact ⟨⟨j + 1, _, _, _, by omega, by omega, by simp, ⟨_, _, by rw [unhide HNX]⟩, unhide HSTX, unhide HLRX, unhide HPLX, unhide HDNX⟩, by simp [intOf]; omega⟩
                · have HSY := hide (sync_yes (unhide HSTX).dk hf (by have := unhide HPLX; omega))
                  clear hf HPD
                  go_wp2_with (first
                    | (go_at_call 22; refine (unhide HSY).mono ?_; rintro e w8 ⟨rfl, hd8, hn8⟩; have HST8 := hide ((unhide HSTX).next hd8 hn8); clear hd8 hn8 HSY; have HPD := hide (pending_any (unhide HST8).dk); rw [show (dX.sync.pend.length : Int) = 0 from rfl] at HPD)
                    | (go_at_call 13; refine (unhide HNUM _ _).mono ?_; rintro e wq ⟨rfl, hq⟩; have hq' := hq.symm; subst hq'; clear hq)
                    | (go_at_call 23; refine (unhide HPD).mono ?_; rintro e wq ⟨rfl, hq⟩; have hq' := hq.symm; subst hq'; clear hq; clear HPD))
                  exact ⟨⟨j + 1, _, dX.sync, [], by omega, by omega, by simp, ⟨_, _, rfl⟩, unhide HST8, LR.nil _ _ _, by simp [Dm.sync], unhide HDNX⟩, by simp [intOf]; omega⟩
              | false =>
                rw [hb] at p9
                clear hb
                go_wp2_with (first | (go_at_call 13; refine (unhide HNUM _ _).mono ?_; rintro e wq ⟨rfl, hq⟩; have hq' := hq.symm; subst hq'; clear hq) | (go_at_call 23; refine (unhide HPD).mono ?_; rintro e wq ⟨rfl, hq⟩; have hq' := hq.symm; subst hq'; clear hq; clear HPD))
                exact ⟨⟨j + 1, _, _, _, by omega, by omega, by simp, ⟨_, _, by rw [unhide HNX]⟩, unhide HSTX, unhide HLRX, unhide HPLX, unhide HDNX⟩, by simp [intOf]; omega⟩
            · have u3 : ((j : Int) < (LS : Int)) = False := by simp; omega
              go_wp2_with (first | (go_at_call 13; refine (unhide HNUM _ _).mono ?_; rintro e wq ⟨rfl, hq⟩; have hq' := hq.symm; subst hq'; clear hq) | (go_at_call 23; refine (unhide HPD).mono ?_; rintro e wq ⟨rfl, hq⟩; have hq' := hq.symm; subst hq'; clear hq; clear HPD))
              exact ⟨⟨j + 1, _, _, _, by omega, by omega, by simp, ⟨_, _, by rw [unhide HNX]⟩, unhide HSTX, unhide HLRX, unhide HPLX, unhide HDNX⟩, by simp [intOf]; omega⟩
          · have tz : (((wE d x l.length : Nat) : Int) == 0) = false := by simp; omega
            have HOP := hide (write_no (unhide HSTD).dk ((unhide HDV).kept (Kept.refl [] wr).drew (Or.inr (by simp))) hz)
            clear hz
            go_wp2_with fail
            go_region_held3 (fun w' => w'.cell? ⟨pb, po + j, none⟩ = some (.int .i64 x) ∧ w'.cell? ⟨wb, wo + j, none⟩ = some (.slice da dn dc)) (go_keep)
              (first | (go_at_call 19; refine (unhide HOP).mono ?_; rintro e wq ⟨rfl, hq⟩; have hq' := hq.symm; subst hq'; clear hq; clear HOP))
            obtain ⟨dX, hdX⟩ : ∃ dX, dX = d := ⟨_, rfl⟩
            obtain ⟨NX, hNX⟩ : ∃ NX, NX = d.pend.length := ⟨_, rfl⟩
            have HNX : Hid (dX.pend.length = NX) := by rw [hdX, hNX]; rfl
            have HSTX : Hid (Stand w1 b F dX wr.drew) := by rw [hdX]; exact HSTD
            have HLRX : Hid (LR w1.heap.size wr.drew F (.slice ra NX rcp) dX.pend vs) := by rw [hdX, hNX]; exact (unhide HLR).kept (Kept.refl [] wr).drew
            have HPLX : Hid (dX.pend.length ≤ j + 1) := by rw [hdX]; unfold Hid; omega
            have HDNX : Hid (dX.n = n) := by rw [hdX]; exact HDN
            rw [← hNX]
            clear hdX hNX
            have HPD := hide (pending_any (unhide HSTX).dk)
            rw [unhide HNX] at HPD
            by_cases hjs : j < LS
            · obtain ⟨sa', scp', hse, -, hsc⟩ := (unhide HS1).keptE (unhide HSTX).nx.kept
              injection hse with e7 e8 e9
              subst e7
              obtain ⟨sb, so, rfl, -, p9⟩ := hsc j (by rw [(unhide HLEN).2.2.1]; exact hjs)
              clear hsc e8 e9
              have u3 : (j : Int) < (LS : Int) := by omega
              cases hb : ss.getD j false with
              | true =>
                rw [hb] at p9
                clear hb
                by_cases hf : dX.fuse = some 0
                · have HSY := hide (sync_no (unhide HSTX).dk hf)
                  clear hf
                  go_wp2_with (first
                    | (go_at_call 22; refine (unhide HSY).mono ?_; rintro e wq ⟨rfl, hq⟩; have hq' := hq.symm; subst hq'; clear hq; clear HSY)
                    | (go_at_call 13; refine (unhide HNUM _ _).mono ?_; rintro e wq ⟨rfl, hq⟩; have hq' := hq.symm; subst hq'; clear hq)
                    | (go_at_call 23; refine (unhide HPD).mono ?_; rintro e wq ⟨rfl, hq⟩; have hq' := hq.symm; subst hq'; clear hq; clear HPD))
                  exact ⟨⟨j + 1, _, _, _, by omega, by omega, by simp, ⟨_, _, by rw [unhide HNX]⟩, unhide HSTX, unhide HLRX, unhide HPLX, unhide HDNX⟩, by simp [intOf]; omega⟩
                · have HSY := hide (sync_yes (unhide HSTX).dk hf (by have := unhide HPLX; omega))
                  clear hf HPD
                  go_wp2_with (first
                    | (go_at_call 22; refine (unhide HSY).mono ?_; rintro e w8 ⟨rfl, hd8, hn8⟩; have HST8 := hide ((unhide HSTX).next hd8 hn8); clear hd8 hn8 HSY; have HPD := hide (pending_any (unhide HST8).dk); rw [show (dX.sync.pend.length : Int) = 0 from rfl] at HPD)
                    | (go_at_call 13; refine (unhide HNUM _ _).mono ?_; rintro e wq ⟨rfl, hq⟩; have hq' := hq.symm; subst hq'; clear hq)
                    | (go_at_call 23; refine (unhide HPD).mono ?_; rintro e wq ⟨rfl, hq⟩; have hq' := hq.symm; subst hq'; clear hq; clear HPD))
                  exact ⟨⟨j + 1, _, dX.sync, [], by omega, by omega, by simp, ⟨_, _, rfl⟩, unhide HST8, LR.nil _ _ _, by simp [Dm.sync], unhide HDNX⟩, by simp [intOf]; omega⟩
              | false =>
                rw [hb] at p9
                clear hb
                go_wp2_with (first | (go_at_call 13; refine (unhide HNUM _ _).mono ?_; rintro e wq ⟨rfl, hq⟩; have hq' := hq.symm; subst hq'; clear hq) | (go_at_call 23; refine (unhide HPD).mono ?_; rintro e wq ⟨rfl, hq⟩; have hq' := hq.symm; subst hq'; clear hq; clear HPD))
                exact ⟨⟨j + 1, _, _, _, by omega, by omega, by simp, ⟨_, _, by rw [unhide HNX]⟩, unhide HSTX, unhide HLRX, unhide HPLX, unhide HDNX⟩, by simp [intOf]; omega⟩
            · have u3 : ((j : Int) < (LS : Int)) = False := by simp; omega
              go_wp2_with (first | (go_at_call 13; refine (unhide HNUM _ _).mono ?_; rintro e wq ⟨rfl, hq⟩; have hq' := hq.symm; subst hq'; clear hq) | (go_at_call 23; refine (unhide HPD).mono ?_; rintro e wq ⟨rfl, hq⟩; have hq' := hq.symm; subst hq'; clear hq; clear HPD))
              exact ⟨⟨j + 1, _, _, _, by omega, by omega, by simp, ⟨_, _, by rw [unhide HNX]⟩, unhide HSTX, unhide HLRX, unhide HPLX, unhide HDNX⟩, by simp [intOf]; omega⟩
        · have HSTE := hide hst
          have HLRE := hide hlr
          have HIM1 := hide (image_any hst.dk)
          rw [hdn] at HIM1
          have HPL2 : Hid (d.pend.length ≤ 1000000000) := by unfold Hid; omega
          have HDN := hide hdn
          clear hst hlr hpl hdn
          by_cases hx1 : j < LW
          · have u1 : (j : Int) < (LW : Int) := by omega
            have u2 : ((j : Int) < (LP : Int)) = False := by simp; omega
            clear hjj hx1
            go_wp2_with (first
              | (go_at_call 27; refine (unhide HIM1).mono ?_; rintro e w4 ⟨r4, rc4, rfl, ho4, hk4⟩; have HST4 := hide ((unhide HSTE).quiet hk4); have HLR4 := hide ((unhide HLRE).kept hk4); have HRW4 := hide ho4; have HR4F : Hid (r4 ∉ F) := (by obtain ⟨g9, c9, hv9, hb9, -⟩ := row_of_own ho4 (by omega); injection hv9 with e7; injection e7 with e7; injection e7 with e7; exact (unhide HSTE).new (by omega)); clear ho4 hk4 HIM1; have HKV := hide ((unhide HKK).keptE (unhide HST4).nx.kept); have HCR := hide (crash_anyO (unhide HST4).dk (by have := unhide HPL2; omega) (unhide HKV) (by
                  obtain ⟨a9, c9, hv9, -, h9⟩ := unhide HKK
                  by_cases h0 : ks = []
                  · exact Or.inl h0
                  · refine Or.inr fun q9 hq9 => ?_
                    obtain ⟨b9, o9, e9, hb9, -⟩ := h9 0 (List.length_pos_iff.2 h0)
                    rw [hv9, e9] at hq9
                    simp [Value.ownBlock] at hq9
                    exact (unhide HST4).away (by omega)) torn cut))
              | (go_at_call 25; refine (unhide HCR).mono ?_; rintro e w5 ⟨rfl, hd5, hn5⟩; have HST5 := hide ((unhide HST4).next hd5 hn5); have HLR5 := hide ((unhide HLR4).disk hn5); have HRW5 := hide (own_kept (unhide HRW4) hn5.kept (fun q hq => by simp [Value.ownBlock] at hq; subst hq; exact unhide HR4F)); clear hd5 hn5 HCR; have HIM2 := hide (image_any (unhide HST5).dk); rw [show (d.crash ks torn cut).n = n from unhide HDN] at HIM2)
              | (go_at_call 27; refine (unhide HIM2).mono ?_; rintro e w6 ⟨r6, rc6, rfl, ho6, hk6⟩; have HST6 := hide ((unhide HST5).quiet hk6); have HLR6 := hide ((unhide HLR5).kept hk6); have HRW6 := hide (own_kept (unhide HRW5) hk6 (by simp)); have HRX6 := hide ho6; have HR6F : Hid (r6 ∉ F) := (by obtain ⟨g9, c9, hv9, hb9, -⟩ := row_of_own ho6 (by omega); injection hv9 with e7; injection e7 with e7; injection e7 with e7; exact (unhide HST5).new (by omega)); clear ho6 hk6 HIM2; have HPD := hide (pending_any (unhide HST6).dk); rw [show ((d.crash ks torn cut).pend.length : Int) = 0 from rfl] at HPD)
              | (go_at_call 23; refine (unhide HPD).mono ?_; rintro e wq ⟨rfl, hq⟩; have hq' := hq.symm; subst hq'; clear hq; clear HPD))
            obtain ⟨d5, hd5⟩ : ∃ d5, d5 = d.crash ks torn cut := ⟨_, rfl⟩
            rw [← hd5] at HST6 HRX6
            have HD5 : Hid (d5.fuse = none ∧ d5.pend = [] ∧ d5.n = n ∧ d5.safe = (d.crash ks torn cut).safe) := by rw [hd5]; exact ⟨rfl, rfl, unhide HDN, rfl⟩
            clear hd5
            have hrc4 : 64 * n ≤ rc4 := by
              obtain ⟨g9, c9, hv9, -, -, h9, -⟩ := row_of_own (unhide HRW6) (by omega)
              injection hv9 with e7 e8 e9
              omega
            have hrc6 : 64 * n ≤ rc6 := by
              obtain ⟨g9, c9, hv9, -, -, h9, -⟩ := row_of_own (unhide HRX6) (by omega)
              injection hv9 with e7 e8 e9
              omega
            go_loopw [25] (fun i wr => ∃ m : Nat, m ≤ n ∧ i = .int .i64 m ∧ Kept [] w6 wr) (fun i _ => n - (intOf i).toNat)
            case atStart => exact ⟨0, by omega, rfl, Kept.refl _ _⟩
            case round =>
              obtain ⟨m, hm, rfl, hkm⟩ := hrel
              have HKM := hide hkm
              have HSTM := hide ((unhide HST6).quiet hkm)
              clear hkm
              by_cases hmn : m < n
              · have hrz : rE d5 (m : Int) = 0 := by
                  have h1 := (unhide HD5).2.2.1
                  simp only [rE, (unhide HD5).1]
                  rw [if_neg (by simp), if_neg (by omega)]
                have HRD := hide (read_yes (unhide HSTM).dk hrz (by rw [(unhide HD5).2.1]; simp))
                have hne : newest d5 m = sect d5.safe m := by unfold newest; rw [(unhide HD5).2.1]; rfl
                rw [hne] at HRD
                have hok5 := (unhide HST6).dk.ok
                have hokd := (unhide HST4).dk.ok
                have HSL := hide (sect_len (s := d5.safe) (k := m) (m := d5.n) hok5.len (by rw [(unhide HD5).2.2.1]; exact hmn))
                have HSLD := hide (sect_len (s := d.safe) (k := m) (m := d.n) hokd.len (by rw [unhide HDN]; exact hmn))
                have HBY := hide (sect_bytes (k := m) hok5.byte)
                have HSS := hide (fun wx (hx : Kept [] w6 wx) => sees_sub (own_kept (unhide HRX6) hx (by simp)) hok5.byte hmn)
                have HSW := hide (fun wx (hx : Kept [] w6 wx) => sees_sub (own_kept (unhide HRW6) hx (by simp)) hokd.byte hmn)
                have HMIX : Hid (Mix (may (sect d.safe m) m d.pend) (sect d5.safe m)) := by
                  rw [(unhide HD5).2.2.2]
                  exact crash_may hokd ks torn cut (by rw [unhide HDN]; exact hmn)
                have HPD64 : Hid (∀ x ∈ d.pend, x.d.length = 64) := fun x hx => (hokd.pend x hx).len
                clear hrz hne hok5 hokd
                have v1 : (m : Int) < (n : Int) := by omega
                have v2 : (64 * (m : Int)).toNat = 64 * m := by omega
                have v3 : 64 * (m : Int) + 64 ≤ (rc6 : Int) := by omega
                have v3' : 64 * (m : Int) + 64 ≤ (rc4 : Int) := by omega
                have v4 : (64 * (m : Int) + 64).toNat = 64 * m + 64 := by omega
                have v5 : 64 * m + 64 - 64 * m = 64 := by omega
                have v6 : (rc6 = 64 * m) = False := by simp; omega
                have v6' : (rc4 = 64 * m) = False := by simp; omega
                go_wp2_with (first
                  | (go_at_call 21; refine (unhide HRD).mono ?_; rintro e w7 ⟨r7, rfl, hb7, -, hk7⟩; have HK7 : Hid (Kept [] w6 w7) := (unhide HKM).trans hk7 (by simp); have HS7 := hide (Sees.of_blk (unhide HSL) hb7 (unhide HBY) 64 (by omega) (by omega)); have HSM := hide (same_q (unhide HS7) (unhide HSS _ (unhide HK7))); clear hb7 hk7 HRD)
                  | (go_at_call 13; refine (unhide HNUM _ _).mono ?_; rintro e wq ⟨rfl, hq⟩; have hq' := hq.symm; subst hq'; clear hq)
                  | (go_at_call 28; refine (unhide HSM).mono ?_; rintro e w8 ⟨rfl, hq8⟩; have HK8 : Hid (Kept [] w6 w8) := (unhide HK7).trans hq8.kept (by simp); have HGO := hide (goes_any (k := m) (unhide HSW _ (unhide HK8)) ((unhide HS7).kept hq8.kept (Or.inr (by simp))) (unhide HSLD) (unhide HSL) (((unhide HLR6).kept (unhide HK8)).laid (by have := unhide HPL2; omega)) (unhide HPD64) (unhide HPL2) (unhide HMIX)); clear hq8 HSM)
                  | (go_at_call 29; refine (unhide HGO).mono ?_; rintro e w9 ⟨rfl, hk9⟩; have HK9 : Hid (Kept [] w6 w9) := (unhide HK8).trans hk9 (by simp); clear hk9 HGO))
                exact ⟨⟨m + 1, by omega, by simp, unhide HK9⟩, by simp [intOf]; omega⟩
              · obtain rfl : m = n := by omega
                have v1 : ((m : Int) < (m : Int)) = False := by simp
                have HST7 := hide ((unhide HSTM).quiet ((Kept.refl [] wr).alloc (.cells #[.bool true, .bool true] 4)))
                have HCR := hide (crash_anyO (unhide HST7).dk (by rw [(unhide HD5).2.1]; simp) (sees_two wr) (Or.inr (fun q9 hq9 => by simp [Value.ownBlock] at hq9; subst hq9; exact (unhide HSTM).new (Nat.le_refl _))) 0 1)
                have hsf : (d5.crash [true, true] 0 1).safe = d5.safe := by simp only [Dm.crash]; rw [(unhide HD5).2.1]; rfl
                have HSF := hide hsf
                have HBY5 := hide (unhide HST6).dk.ok.byte
                clear hsf
                have HRXM := hide (own_kept (unhide HRX6) ((unhide HKM).alloc (.cells #[.bool true, .bool true] 4)) (by simp))
                go_wp2_with (first
                  | (go_at_call 25; refine (unhide HCR).mono ?_; rintro e w7 ⟨rfl, hd7, hn7⟩; have HST8 := hide ((unhide HST7).next hd7 hn7); have HRX7 := hide (own_kept (unhide HRXM) hn7.kept (fun q hq => by simp [Value.ownBlock] at hq; subst hq; exact unhide HR6F)); clear hd7 hn7 HCR; have HIM := hide (image_any (unhide HST8).dk); rw [unhide HSF, show (d5.crash [true, true] 0 1).n = m from (unhide HD5).2.2.1] at HIM)
                  | (go_at_call 27; refine (unhide HIM).mono ?_; rintro e w9 ⟨r9, rc9, rfl, ho9, hk9⟩; have HST9 := hide ((unhide HST8).quiet hk9); have HSM := hide (same_q (sees_image ho9 (unhide HBY5)) (sees_image (own_kept (unhide HRX7) hk9 (by simp)) (unhide HBY5))); clear ho9 hk9 HIM)
                  | (go_at_call 28; refine (unhide HSM).mono ?_; rintro e w10 ⟨rfl, hq10⟩; have HSTZ := hide ((unhide HST9).quiet hq10.kept); clear hq10 HSM))
                go_ret
                exact ⟨rfl, (unhide HK1).trans (unhide HSTZ).nx.kept (by simp)⟩
          · have u1 : ((j : Int) < (LW : Int)) = False := by simp; omega
            clear hjj hx1
            go_wp2_with (first
              | (go_at_call 27; refine (unhide HIM1).mono ?_; rintro e w4 ⟨r4, rc4, rfl, ho4, hk4⟩; have HST4 := hide ((unhide HSTE).quiet hk4); have HLR4 := hide ((unhide HLRE).kept hk4); have HRW4 := hide ho4; have HR4F : Hid (r4 ∉ F) := (by obtain ⟨g9, c9, hv9, hb9, -⟩ := row_of_own ho4 (by omega); injection hv9 with e7; injection e7 with e7; injection e7 with e7; exact (unhide HSTE).new (by omega)); clear ho4 hk4 HIM1; have HKV := hide ((unhide HKK).keptE (unhide HST4).nx.kept); have HCR := hide (crash_anyO (unhide HST4).dk (by have := unhide HPL2; omega) (unhide HKV) (by
                  obtain ⟨a9, c9, hv9, -, h9⟩ := unhide HKK
                  by_cases h0 : ks = []
                  · exact Or.inl h0
                  · refine Or.inr fun q9 hq9 => ?_
                    obtain ⟨b9, o9, e9, hb9, -⟩ := h9 0 (List.length_pos_iff.2 h0)
                    rw [hv9, e9] at hq9
                    simp [Value.ownBlock] at hq9
                    exact (unhide HST4).away (by omega)) torn cut))
              | (go_at_call 25; refine (unhide HCR).mono ?_; rintro e w5 ⟨rfl, hd5, hn5⟩; have HST5 := hide ((unhide HST4).next hd5 hn5); have HLR5 := hide ((unhide HLR4).disk hn5); have HRW5 := hide (own_kept (unhide HRW4) hn5.kept (fun q hq => by simp [Value.ownBlock] at hq; subst hq; exact unhide HR4F)); clear hd5 hn5 HCR; have HIM2 := hide (image_any (unhide HST5).dk); rw [show (d.crash ks torn cut).n = n from unhide HDN] at HIM2)
              | (go_at_call 27; refine (unhide HIM2).mono ?_; rintro e w6 ⟨r6, rc6, rfl, ho6, hk6⟩; have HST6 := hide ((unhide HST5).quiet hk6); have HLR6 := hide ((unhide HLR5).kept hk6); have HRW6 := hide (own_kept (unhide HRW5) hk6 (by simp)); have HRX6 := hide ho6; have HR6F : Hid (r6 ∉ F) := (by obtain ⟨g9, c9, hv9, hb9, -⟩ := row_of_own ho6 (by omega); injection hv9 with e7; injection e7 with e7; injection e7 with e7; exact (unhide HST5).new (by omega)); clear ho6 hk6 HIM2; have HPD := hide (pending_any (unhide HST6).dk); rw [show ((d.crash ks torn cut).pend.length : Int) = 0 from rfl] at HPD)
              | (go_at_call 23; refine (unhide HPD).mono ?_; rintro e wq ⟨rfl, hq⟩; have hq' := hq.symm; subst hq'; clear hq; clear HPD))
            obtain ⟨d5, hd5⟩ : ∃ d5, d5 = d.crash ks torn cut := ⟨_, rfl⟩
            rw [← hd5] at HST6 HRX6
            have HD5 : Hid (d5.fuse = none ∧ d5.pend = [] ∧ d5.n = n ∧ d5.safe = (d.crash ks torn cut).safe) := by rw [hd5]; exact ⟨rfl, rfl, unhide HDN, rfl⟩
            clear hd5
            have hrc4 : 64 * n ≤ rc4 := by
              obtain ⟨g9, c9, hv9, -, -, h9, -⟩ := row_of_own (unhide HRW6) (by omega)
              injection hv9 with e7 e8 e9
              omega
            have hrc6 : 64 * n ≤ rc6 := by
              obtain ⟨g9, c9, hv9, -, -, h9, -⟩ := row_of_own (unhide HRX6) (by omega)
              injection hv9 with e7 e8 e9
              omega
            go_loopw [25] (fun i wr => ∃ m : Nat, m ≤ n ∧ i = .int .i64 m ∧ Kept [] w6 wr) (fun i _ => n - (intOf i).toNat)
            case atStart => exact ⟨0, by omega, rfl, Kept.refl _ _⟩
            case round =>
              obtain ⟨m, hm, rfl, hkm⟩ := hrel
              have HKM := hide hkm
              have HSTM := hide ((unhide HST6).quiet hkm)
              clear hkm
              by_cases hmn : m < n
              · have hrz : rE d5 (m : Int) = 0 := by
                  have h1 := (unhide HD5).2.2.1
                  simp only [rE, (unhide HD5).1]
                  rw [if_neg (by simp), if_neg (by omega)]
                have HRD := hide (read_yes (unhide HSTM).dk hrz (by rw [(unhide HD5).2.1]; simp))
                have hne : newest d5 m = sect d5.safe m := by unfold newest; rw [(unhide HD5).2.1]; rfl
                rw [hne] at HRD
                have hok5 := (unhide HST6).dk.ok
                have hokd := (unhide HST4).dk.ok
                have HSL := hide (sect_len (s := d5.safe) (k := m) (m := d5.n) hok5.len (by rw [(unhide HD5).2.2.1]; exact hmn))
                have HSLD := hide (sect_len (s := d.safe) (k := m) (m := d.n) hokd.len (by rw [unhide HDN]; exact hmn))
                have HBY := hide (sect_bytes (k := m) hok5.byte)
                have HSS := hide (fun wx (hx : Kept [] w6 wx) => sees_sub (own_kept (unhide HRX6) hx (by simp)) hok5.byte hmn)
                have HSW := hide (fun wx (hx : Kept [] w6 wx) => sees_sub (own_kept (unhide HRW6) hx (by simp)) hokd.byte hmn)
                have HMIX : Hid (Mix (may (sect d.safe m) m d.pend) (sect d5.safe m)) := by
                  rw [(unhide HD5).2.2.2]
                  exact crash_may hokd ks torn cut (by rw [unhide HDN]; exact hmn)
                have HPD64 : Hid (∀ x ∈ d.pend, x.d.length = 64) := fun x hx => (hokd.pend x hx).len
                clear hrz hne hok5 hokd
                have v1 : (m : Int) < (n : Int) := by omega
                have v2 : (64 * (m : Int)).toNat = 64 * m := by omega
                have v3 : 64 * (m : Int) + 64 ≤ (rc6 : Int) := by omega
                have v3' : 64 * (m : Int) + 64 ≤ (rc4 : Int) := by omega
                have v4 : (64 * (m : Int) + 64).toNat = 64 * m + 64 := by omega
                have v5 : 64 * m + 64 - 64 * m = 64 := by omega
                have v6 : (rc6 = 64 * m) = False := by simp; omega
                have v6' : (rc4 = 64 * m) = False := by simp; omega
                go_wp2_with (first
                  | (go_at_call 21; refine (unhide HRD).mono ?_; rintro e w7 ⟨r7, rfl, hb7, -, hk7⟩; have HK7 : Hid (Kept [] w6 w7) := (unhide HKM).trans hk7 (by simp); have HS7 := hide (Sees.of_blk (unhide HSL) hb7 (unhide HBY) 64 (by omega) (by omega)); have HSM := hide (same_q (unhide HS7) (unhide HSS _ (unhide HK7))); clear hb7 hk7 HRD)
                  | (go_at_call 13; refine (unhide HNUM _ _).mono ?_; rintro e wq ⟨rfl, hq⟩; have hq' := hq.symm; subst hq'; clear hq)
                  | (go_at_call 28; refine (unhide HSM).mono ?_; rintro e w8 ⟨rfl, hq8⟩; have HK8 : Hid (Kept [] w6 w8) := (unhide HK7).trans hq8.kept (by simp); have HGO := hide (goes_any (k := m) (unhide HSW _ (unhide HK8)) ((unhide HS7).kept hq8.kept (Or.inr (by simp))) (unhide HSLD) (unhide HSL) (((unhide HLR6).kept (unhide HK8)).laid (by have := unhide HPL2; omega)) (unhide HPD64) (unhide HPL2) (unhide HMIX)); clear hq8 HSM)
                  | (go_at_call 29; refine (unhide HGO).mono ?_; rintro e w9 ⟨rfl, hk9⟩; have HK9 : Hid (Kept [] w6 w9) := (unhide HK8).trans hk9 (by simp); clear hk9 HGO))
                exact ⟨⟨m + 1, by omega, by simp, unhide HK9⟩, by simp [intOf]; omega⟩
              · obtain rfl : m = n := by omega
                have v1 : ((m : Int) < (m : Int)) = False := by simp
                have HST7 := hide ((unhide HSTM).quiet ((Kept.refl [] wr).alloc (.cells #[.bool true, .bool true] 4)))
                have HCR := hide (crash_anyO (unhide HST7).dk (by rw [(unhide HD5).2.1]; simp) (sees_two wr) (Or.inr (fun q9 hq9 => by simp [Value.ownBlock] at hq9; subst hq9; exact (unhide HSTM).new (Nat.le_refl _))) 0 1)
                have hsf : (d5.crash [true, true] 0 1).safe = d5.safe := by simp only [Dm.crash]; rw [(unhide HD5).2.1]; rfl
                have HSF := hide hsf
                have HBY5 := hide (unhide HST6).dk.ok.byte
                clear hsf
                have HRXM := hide (own_kept (unhide HRX6) ((unhide HKM).alloc (.cells #[.bool true, .bool true] 4)) (by simp))
                go_wp2_with (first
                  | (go_at_call 25; refine (unhide HCR).mono ?_; rintro e w7 ⟨rfl, hd7, hn7⟩; have HST8 := hide ((unhide HST7).next hd7 hn7); have HRX7 := hide (own_kept (unhide HRXM) hn7.kept (fun q hq => by simp [Value.ownBlock] at hq; subst hq; exact unhide HR6F)); clear hd7 hn7 HCR; have HIM := hide (image_any (unhide HST8).dk); rw [unhide HSF, show (d5.crash [true, true] 0 1).n = m from (unhide HD5).2.2.1] at HIM)
                  | (go_at_call 27; refine (unhide HIM).mono ?_; rintro e w9 ⟨r9, rc9, rfl, ho9, hk9⟩; have HST9 := hide ((unhide HST8).quiet hk9); have HSM := hide (same_q (sees_image ho9 (unhide HBY5)) (sees_image (own_kept (unhide HRX7) hk9 (by simp)) (unhide HBY5))); clear ho9 hk9 HIM)
                  | (go_at_call 28; refine (unhide HSM).mono ?_; rintro e w10 ⟨rfl, hq10⟩; have HSTZ := hide ((unhide HST9).quiet hq10.kept); clear hq10 HSM))
                go_ret
                exact ⟨rfl, (unhide HK1).trans (unhide HSTZ).nx.kept (by simp)⟩

end Go.Proofs.Ytfaoblnghkiibaa
