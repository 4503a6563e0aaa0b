/- DiskSafe: the script. -/
import Derived.Test.YtfaoblnghkiibaaQKnowW
namespace Go.Proofs.Ytfaoblnghkiibaa
open Go.RowKit

/-- one step of a script that came in -/
structure OpM where
  who : Int
  kind : Int
  n : Int
  dv : Value
  dl : List Nat
  kv : Value
  kl : List Bool
  torn : Int
  cut : Int
def oc (o : OpM) : List Value := [.int .i64 o.who, .int .i64 o.kind, .int .i64 o.n, o.dv, o.kv, .int .i64 o.torn, .int .i64 o.cut]
structure OpOk (w : World) (o : OpM) : Prop where
  data : Sees w o.dv o.dl
  keep : SeesB w o.kv o.kl
  n : o.n ≤ 9223372036854775807
  one : ∀ v ∈ oc o, v.oneCell' = true
/-- a script that came in -/
def Ops (w : World) (v : Value) (os : List OpM) : Prop :=
  ∃ a cap, v = .slice a os.length cap ∧ os.length ≤ 9223372036854775807 ∧ ∀ k o, os[k]? = some o → OpOk w o ∧ ∃ b off, a = some ⟨b, off, none⟩ ∧ b < w.heap.size ∧ w.rangeAt b (off + k * 7) (oc o)
theorem SeesB.keptE {w w' : World} {v : Value} {l : List Bool} (h : SeesB w v l) (hk : Kept [] w w') : SeesB w' v l := h.kept hk (by simp)
theorem OpOk.kept {w w' : World} {o : OpM} (h : OpOk w o) (hk : Kept [] w w') : OpOk w' o := ⟨h.data.kept hk (Or.inr (by simp)), h.keep.keptE hk, h.n, h.one⟩
theorem Ops.kept {w w' : World} {v : Value} {os : List OpM} (h : Ops w v os) (hk : Kept [] w w') : Ops w' v os := by
  obtain ⟨a, cap, rfl, h1, h2⟩ := h
  refine ⟨a, cap, rfl, h1, fun k o ho => ?_⟩
  obtain ⟨h3, b, off, rfl, h4, h5⟩ := h2 k o ho
  exact ⟨h3.kept hk, b, off, rfl, Nat.lt_of_lt_of_le h4 hk.size, range_kept h5 hk h4 (by simp)⟩

def z41 : List Value := [.int .i64 0, .int .i64 0, .int .i64 0, .slice none 0 0, .slice none 0 0, .int .i64 0, .int .i64 0]
theorem size41 : (Try.prog.info? 41).map (·.size) = some 7 := by kernel_rfl
theorem zero41 (w : World) : (zeroValue 41).run Try.prog w = .ok (.agg z41.toArray) w := by kernel_rfl

theorem wE_zero {d : Dm} {x : Int} {l : Nat} (h : wE d x l = 0) : rE d x = 0 ∧ l = 64 := by
  unfold wE at h
  split at h
  · next h1 => exact absurd h h1
  · next h1 =>
    split at h
    · cases h
    · next h2 => exact ⟨by omega, by omega⟩
theorem write_no {w : World} {b : Nat} {F : List Nat} {d : Dm} (h : Dk w b F d) {x : Int} {v : Value} {l : List Nat} (hv : Sees w v l) (hz : wE d x l.length ≠ 0) :
    Calls Try.prog 19 #[.pointer (some ⟨b, 0, none⟩), .int .i64 x, v] w fun e w' => e = .returned (.int .i64 (wE d x l.length : Nat)) ∧ w' = w := by
  unfold wE at hz ⊢
  by_cases h1 : rE d x ≠ 0
  · rw [if_pos h1]; exact write_no1 h h1 v
  · rw [if_neg h1] at hz ⊢
    by_cases h2 : l.length ≠ 64
    · rw [if_pos h2]; exact write_no2 h (by omega) hv h2
    · rw [if_neg h2] at hz; exact absurd rfl hz

/-- a disk at a world, reached from w1 -/
structure Stand (w1 : World) (b : Nat) (F : List Nat) (d : Dm) (w : World) : Prop where
  dk : Dk w b F d
  nx : Nx [] w1 F w
theorem Stand.quiet {w1 w w' : World} {b : Nat} {F : List Nat} {d : Dm} (h : Stand w1 b F d w) (hk : Kept [] w w') : Stand w1 b F d w' := ⟨h.dk.keep hk (by simp), h.nx.quiet hk⟩
theorem Stand.away {w1 w : World} {b : Nat} {F : List Nat} {d : Dm} (h : Stand w1 b F d w) {q : Nat} (hq : q < w1.heap.size) : q ∉ F := fun hm => by
  rcases h.nx.sub q hm with h1 | h1
  · cases h1
  · omega
theorem Stand.new {w1 w : World} {b : Nat} {F : List Nat} {d : Dm} (h : Stand w1 b F d w) {q : Nat} (hq : w.heap.size ≤ q) : q ∉ F := fun hm => by
  have := h.dk.lt q hm; omega
theorem sees_image {w : World} {base r cap n : Nat} {s : List Nat} (ho : w.ownsRow base 5 1 (.slice (some ⟨r, 0, none⟩) n cap) n (u8s s)) (hb : ∀ x ∈ s, x < 256) : Sees w (.slice (some ⟨r, 0, none⟩) n cap) s := by
  have hl := own_len_eq ho
  subst hl
  exact Sees.of_own ho hb

theorem sees_sub {w : World} {base r cap n j : Nat} {s : List Nat} (ho : w.ownsRow base 5 1 (.slice (some ⟨r, 0, none⟩) (64 * n) cap) (64 * n) (u8s s)) (hb : ∀ x ∈ s, x < 256) (hj : j < n) :
    Sees w (.slice (some ⟨r, 64 * j, none⟩) 64 (cap - 64 * j)) (sect s j) := by
  have hl := own_len_eq ho
  have hsl := sect_len hl hj
  obtain ⟨g, c, hv, -, h1, h2, h3⟩ := row_of_own ho (by omega)
  injection hv with e1 e2 e3
  injection e1 with e1
  injection e1 with e1
  subst e1
  subst e3
  refine ⟨_, _, by rw [hsl], by rw [hsl]; omega, by unfold maxLen at h3 ⊢; omega, sect_bytes hb, Or.inr ⟨r, 64 * j, rfl, h1, fun i hi => ?_⟩⟩
  rw [hsl] at hi
  rw [own_cell ho (show 64 * j + i < s.length by omega)]
  have h64 : 64 * j + i < s.length := by omega
  simp [sect, hi, List.getElem?_drop, List.getElem?_eq_getElem h64]

set_option maxRecDepth 100000 in
set_option maxHeartbeats 16000000 in
theorem safe_walk {w : World} {iv sv kv : Value} {bs : List Nat} {os : List OpM} {ks : List Bool} (hi : Sees w iv bs) (hs : Ops w sv os) (hk : SeesB w kv ks) (hil : bs.length ≤ 9223372036854775807) (hos : os.length ≤ 1000000000) (torn cut : Int) :
    Calls Try.prog 6 #[iv, sv, kv, .int .i64 torn, .int .i64 cut] w fun e w' => e = .returned (.bool true) ∧ Kept [] w w' := by
  have HNUM := hide num_any
  by_cases hno : noDisk bs.length
  · obtain ⟨ia, ic, rfl, -⟩ := hi
    obtain ⟨sa, sc, rfl, -⟩ := hs
    obtain ⟨ka, kc, rfl, -⟩ := hk
    have HLN := hide (fun w => load_no (w := w) (a := ia) (cap := ic) hil hno)
    clear hno
    generalize bs.length = LI at *
    go_enter Try.func6, Try.ntmps6
    go_wp2_with (first
      | (go_at_call 17; refine (known_any w).mono ?_; rintro e w1 ⟨rfl, hk1⟩; have HK1 := hide hk1; clear hk1)
      | (go_at_call 10; refine (unhide HLN _).mono ?_; rintro e wq ⟨rfl, hq⟩; have hq' := hq.symm; subst hq'; clear hq HLN)
      | (go_at_call 13; refine (unhide HNUM _ _).mono ?_; rintro e wq ⟨rfl, hq⟩; have hq' := hq.symm; subst hq'; clear hq))
    go_ret
    exact ⟨rfl, unhide HK1⟩
  · obtain ⟨n, hn, hn1, hn2⟩ : ∃ n, bs.length = 64 * n ∧ 1 ≤ n ∧ n ≤ 65536 := ⟨bs.length / 64, by unfold noDisk at hno; omega, by unfold noDisk at hno; omega, by unfold noDisk at hno; omega⟩
    have HI := hide hi
    have HS := hide hs
    have HK := hide hk
    obtain ⟨ia, ic, rfl, -⟩ := hi
    obtain ⟨sa, sc, rfl, -⟩ := hs
    obtain ⟨ka, kc, rfl, -⟩ := hk
    have HN := hide (⟨hn, hn1, hn2⟩ : _ ∧ _ ∧ _)
    clear hno hn hn1 hn2 hil
    generalize hLI : bs.length = LI at *
    generalize hL : os.length = L at *
    generalize hLK : ks.length = LK at *
    have HLEN := hide (⟨hLI, hL, hLK⟩ : _ ∧ _ ∧ _)
    clear hLI hL hLK
    go_enter Try.func6, Try.ntmps6
    go_wp2_with (first
      | (go_at_call 17; refine (known_any w).mono ?_; rintro e w1 ⟨rfl, hk1⟩; have HK1 := hide hk1; clear hk1; have HLD := hide (load_yes ((unhide HI).kept (unhide HK1) (Or.inr (by simp))) ((unhide HLEN).1.trans (unhide HN).1) (unhide HN).2.1 (unhide HN).2.2))
      | (go_at_call 10; refine (unhide HLD).mono ?_; rintro e w2 ⟨b, F, rfl, hd, hnx⟩; have HST : Hid (Stand w1 b F (fresh n bs) w2) := ⟨hd, hnx⟩; clear hd hnx HLD)
      | (go_at_call 13; refine (unhide HNUM _ _).mono ?_; rintro e wq ⟨rfl, hq⟩; have hq' := hq.symm; subst hq'; clear hq))
    have HS1 := hide ((unhide HS).kept (unhide HK1))
    have HK2 := hide ((unhide HK).keptE (unhide HK1))
    go_loopw [13] (fun i wr => ∃ (k : Nat) (F : List Nat) (d : Dm), k ≤ L ∧ i = .int .i64 k ∧ Stand w1 b F d wr ∧ d.pend.length ≤ k) (fun i _ => L - (intOf i).toNat)
    case atStart => exact ⟨0, F, fresh n bs, by omega, rfl, unhide HST, by simp [fresh]⟩
    case round =>
      clear HST
      obtain ⟨k, F, d, hkl, rfl, hst, hpl⟩ := hrel
      have HST := hide hst
      by_cases hkL : k < L
      · obtain ⟨o, ho⟩ : ∃ o, os[k]? = some o := ⟨_, List.getElem?_eq_getElem (by rw [(unhide HLEN).2.1]; exact hkL)⟩
        obtain ⟨sa', sc', hse, -, hsc⟩ := unhide HS1
        injection hse with e1 e2 e3
        subst e1
        obtain ⟨hoo, ob, off, rfl, hob, hrg⟩ := hsc k o ho
        have hkw : Kept [] w1 wr := hst.nx.kept
        have HR := hide (range_kept hrg hkw hob (by simp))
        have HONE := hide hoo.one
        have HOO := hide (hoo.kept hkw)
        have HDL : Hid (o.dl.length = 64 → ∀ q, o.dv.ownBlock = some q → q < w1.heap.size) := by
          intro hl q hq
          obtain ⟨a, cap, hv, _, _, _, h4⟩ := hoo.data
          rcases h4 with h4 | ⟨b5, o5, rfl, h5, _⟩
          · rw [h4] at hl; simp at hl
          · rw [hv] at hq
            simp [Value.ownBlock] at hq
            omega
        have HSTW0 := hide hst
        have HSTW := hide (hst.quiet ((Kept.refl [] wr).alloc (.cells (oc o).toArray 41)))
        have HBW := hide (Blk.new wr (oc o).toArray 41)
        have HIM1 := hide (image_any (unhide HSTW).dk)
        have HPL2 : Hid (d.pend.length ≤ 9223372036854775807) := by unfold Hid; omega
        have HPL : Hid ((d.pend.length + 1) * 72 ≤ 140737488355328) := by unfold Hid; omega
        have t1 : (k : Int) < (L : Int) := by omega
        clear hst ho hsc hoo hob hrg hkw e2 e3 HST
        by_cases hk0 : o.kind = 0
        · by_cases hz : wE d o.n o.dl.length = 0
          · obtain ⟨hz1, hz2⟩ := wE_zero hz
            obtain ⟨x, hx, -, -⟩ := rE_zero hz1
            rw [hx] at hz1
            have HX := hide hx
            have HZ1 := hide hz1
            have HZ2 := hide hz2
            clear hz hz1 hz2 hx
            go_wp2_with (first
              | (guard_target =~ wpList _ _ _ _ _ _; refine wpList_load_mid rfl 41 _ rfl ob (off + k * 7) rfl (oc o) _ (unhide HR) Try.underlying41 rfl size41 ?_)
              | (guard_target =~ wpList _ _ _ _ _ _; refine wpList_alloc_z 41 z41 rfl rfl zero41 ?_)
              | (guard_target =~ wpList _ _ _ _ _ _; refine wpList_store_new _ _ 41 z41.toArray (oc o) rfl rfl rfl rfl size41 rfl (unhide HONE) rfl ?_))
            go_wp2_with (first
              | (go_at_call 27; refine (unhide HIM1).mono ?_; rintro e w2 ⟨r, rc, rfl, ho2, hk2⟩; have HST2 := hide ((unhide HSTW).quiet hk2); have HRW2 := hide ho2; have HK12 : Hid (Kept [] wr w2) := ((Kept.refl [] wr).alloc _).trans hk2 (by simp); have HB2 := hide ((unhide HBW).kept hk2 (by simp)); clear HIM1 ho2 hk2; have HP1 := hide (pending_any (unhide HST2).dk); have HC1 := hide (counts_any (unhide HST2).dk))
              | (go_at_call 23; refine (unhide HP1).mono ?_; rintro e wq ⟨rfl, hq⟩; have hq' := hq.symm; subst hq'; clear hq; clear HP1)
              | (go_at_call 24; refine (unhide HC1).mono ?_; rintro e w3 ⟨rfl, m3, hq3⟩; have HK3 : Hid (Kept [] w2 w3) := (by rw [hq3]; exact kept_drewN _ _); clear HC1 hq3; have HK23 : Hid (Kept [] wr w3) := (unhide HK12).trans (unhide HK3) (by simp); have HST3 := hide ((unhide HST2).quiet (unhide HK3)); have HRW3 := hide (own_kept (unhide HRW2) (unhide HK3) (by simp)); have HB3 := hide ((unhide HB2).kept (unhide HK3) (by simp)); have q1 := (unhide HB3).cell 1; have q2 := (unhide HB3).cell 2; have q3 := (unhide HB3).cell 3; simp [oc] at q1 q2 q3; rw [hk0] at q1; rw [unhide HX] at q2; have HOP := hide (write_yes (unhide HST3).dk (k := x) (unhide HZ1) ((unhide HOO).data.kept (unhide HK23) (Or.inr (by simp))) (unhide HZ2) (fun p hp => (unhide HST3).away (unhide HDL (unhide HZ2) p hp)) (unhide HPL)))
              | (go_at_call 13; refine (unhide HNUM _ _).mono ?_; rintro e wq ⟨rfl, hq⟩; have hq' := hq.symm; subst hq'; clear hq)
              | (go_at_call 19; refine (unhide HOP).mono ?_; rintro e w4 ⟨F4, rfl, hd4, hn4⟩; have HST4 : Hid (Stand w1 b F4 (d.write x o.dl) w4) := ⟨hd4, (unhide HST3).nx.trans hn4⟩; have HB4 := hide ((unhide HB3).kept hn4.kept ((unhide HSTW0).new (Nat.le_refl _))); clear hd4 hn4 HOP; have HC2 := hide (counts_any (unhide HST4).dk))
              | (go_at_call 24; refine (unhide HC2).mono ?_; rintro e w5 ⟨rfl, m5, hq5⟩; have HK5 : Hid (Kept [] w4 w5) := (by rw [hq5]; exact kept_drewN _ _); clear HC2 hq5; have HST5 := hide ((unhide HST4).quiet (unhide HK5)); have z1 := ((unhide HB4).kept (unhide HK5) (by simp)).cell 1; simp [oc] at z1; rw [hk0] at z1))
            all_goals exact ⟨⟨k + 1, _, _, by omega, by simp, unhide HST5, by simp [Dm.write]; omega⟩, by simp [intOf]; omega⟩
          · have tz : (((wE d o.n o.dl.length : Nat) : Int) == 0) = false := by simp; omega
            have HZ := hide hz
            clear hz
            go_wp2_with (first
              | (guard_target =~ wpList _ _ _ _ _ _; refine wpList_load_mid rfl 41 _ rfl ob (off + k * 7) rfl (oc o) _ (unhide HR) Try.underlying41 rfl size41 ?_)
              | (guard_target =~ wpList _ _ _ _ _ _; refine wpList_alloc_z 41 z41 rfl rfl zero41 ?_)
              | (guard_target =~ wpList _ _ _ _ _ _; refine wpList_store_new _ _ 41 z41.toArray (oc o) rfl rfl rfl rfl size41 rfl (unhide HONE) rfl ?_))
            go_wp2_with (first
              | (go_at_call 27; refine (unhide HIM1).mono ?_; rintro e w2 ⟨r, rc, rfl, ho2, hk2⟩; have HST2 := hide ((unhide HSTW).quiet hk2); have HRW2 := hide ho2; have HK12 : Hid (Kept [] wr w2) := ((Kept.refl [] wr).alloc _).trans hk2 (by simp); have HB2 := hide ((unhide HBW).kept hk2 (by simp)); clear HIM1 ho2 hk2; have HP1 := hide (pending_any (unhide HST2).dk); have HC1 := hide (counts_any (unhide HST2).dk))
              | (go_at_call 23; refine (unhide HP1).mono ?_; rintro e wq ⟨rfl, hq⟩; have hq' := hq.symm; subst hq'; clear hq; clear HP1)
              | (go_at_call 24; refine (unhide HC1).mono ?_; rintro e w3 ⟨rfl, m3, hq3⟩; have HK3 : Hid (Kept [] w2 w3) := (by rw [hq3]; exact kept_drewN _ _); clear HC1 hq3; have HK23 : Hid (Kept [] wr w3) := (unhide HK12).trans (unhide HK3) (by simp); have HST3 := hide ((unhide HST2).quiet (unhide HK3)); have HRW3 := hide (own_kept (unhide HRW2) (unhide HK3) (by simp)); have HB3 := hide ((unhide HB2).kept (unhide HK3) (by simp)); have q1 := (unhide HB3).cell 1; have q2 := (unhide HB3).cell 2; have q3 := (unhide HB3).cell 3; simp [oc] at q1 q2 q3; rw [hk0] at q1; have HOP := hide (write_no (unhide HST3).dk ((unhide HOO).data.kept (unhide HK23) (Or.inr (by simp))) (unhide HZ)); have HST4 := HST3; have HRW4 := HRW3; have HC2 := hide (counts_any (unhide HST4).dk))
              | (go_at_call 13; refine (unhide HNUM _ _).mono ?_; rintro e wq ⟨rfl, hq⟩; have hq' := hq.symm; subst hq'; clear hq)
              | (go_at_call 19; refine (unhide HOP).mono ?_; rintro e wq ⟨rfl, hq⟩; have hq' := hq.symm; subst hq'; clear hq; clear HOP)
              | (go_at_call 24; refine (unhide HC2).mono ?_; rintro e w5 ⟨rfl, m5, hq5⟩; have HK5 : Hid (Kept [] w3 w5) := (by rw [hq5]; exact kept_drewN _ _); clear HC2 hq5; have HST5 := hide ((unhide HST4).quiet (unhide HK5)); have HRW5 := hide (own_kept (unhide HRW4) (unhide HK5) (by simp)); have HIM2 := hide (image_any (unhide HST5).dk))
              | (go_at_call 27; refine (unhide HIM2).mono ?_; rintro e w6 ⟨r6, rc6, rfl, ho6, hk6⟩; have HST6 := hide ((unhide HST5).quiet hk6); have HSM := hide (same_q (sees_image ho6 (unhide HST6).dk.ok.byte) (sees_image (own_kept (unhide HRW5) hk6 (by simp)) (unhide HST6).dk.ok.byte)); clear HIM2 ho6 hk6)
              | (go_at_call 28; refine (unhide HSM).mono ?_; rintro e w7 ⟨rfl, hq7⟩; have HST7 := hide ((unhide HST6).quiet hq7.kept); clear hq7 HSM; have HP2 := hide (pending_any (unhide HST7).dk))
              | (go_at_call 23; refine (unhide HP2).mono ?_; rintro e wq ⟨rfl, hq⟩; have hq' := hq.symm; subst hq'; clear hq; clear HP2))
            exact ⟨⟨k + 1, F, d, by omega, by simp, unhide HST7, by omega⟩, by simp [intOf]; omega⟩
        · by_cases hk2 : o.kind = 2
          · clear hk0
            by_cases hf : d.fuse = some 0
            · have HFZ := hide hf
              clear hf
              go_wp2_with (first
                | (guard_target =~ wpList _ _ _ _ _ _; refine wpList_load_mid rfl 41 _ rfl ob (off + k * 7) rfl (oc o) _ (unhide HR) Try.underlying41 rfl size41 ?_)
                | (guard_target =~ wpList _ _ _ _ _ _; refine wpList_alloc_z 41 z41 rfl rfl zero41 ?_)
                | (guard_target =~ wpList _ _ _ _ _ _; refine wpList_store_new _ _ 41 z41.toArray (oc o) rfl rfl rfl rfl size41 rfl (unhide HONE) rfl ?_))
              go_wp2_with (first
                | (go_at_call 27; refine (unhide HIM1).mono ?_; rintro e w2 ⟨r, rc, rfl, ho2, hk2⟩; have HST2 := hide ((unhide HSTW).quiet hk2); have HRW2 := hide ho2; have HK12 : Hid (Kept [] wr w2) := ((Kept.refl [] wr).alloc _).trans hk2 (by simp); have HB2 := hide ((unhide HBW).kept hk2 (by simp)); clear HIM1 ho2 hk2; have HP1 := hide (pending_any (unhide HST2).dk); have HC1 := hide (counts_any (unhide HST2).dk))
                | (go_at_call 23; refine (unhide HP1).mono ?_; rintro e wq ⟨rfl, hq⟩; have hq' := hq.symm; subst hq'; clear hq; clear HP1)
                | (go_at_call 24; refine (unhide HC1).mono ?_; rintro e w3 ⟨rfl, m3, hq3⟩; have HK3 : Hid (Kept [] w2 w3) := (by rw [hq3]; exact kept_drewN _ _); clear HC1 hq3; have HK23 : Hid (Kept [] wr w3) := (unhide HK12).trans (unhide HK3) (by simp); have HST3 := hide ((unhide HST2).quiet (unhide HK3)); have HRW3 := hide (own_kept (unhide HRW2) (unhide HK3) (by simp)); have HB3 := hide ((unhide HB2).kept (unhide HK3) (by simp)); have q1 := (unhide HB3).cell 1; have q2 := (unhide HB3).cell 2; have q3 := (unhide HB3).cell 3; simp [oc] at q1 q2 q3; rw [hk2] at q1; have HOP := hide (sync_no (unhide HST3).dk (unhide HFZ)); have HST4 := HST3; have HRW4 := HRW3; have HC2 := hide (counts_any (unhide HST4).dk))
                | (go_at_call 13; refine (unhide HNUM _ _).mono ?_; rintro e wq ⟨rfl, hq⟩; have hq' := hq.symm; subst hq'; clear hq)
                | (go_at_call 22; refine (unhide HOP).mono ?_; rintro e wq ⟨rfl, hq⟩; have hq' := hq.symm; subst hq'; clear hq; clear HOP)
                | (go_at_call 24; refine (unhide HC2).mono ?_; rintro e w5 ⟨rfl, m5, hq5⟩; have HK5 : Hid (Kept [] w3 w5) := (by rw [hq5]; exact kept_drewN _ _); clear HC2 hq5; have HST5 := hide ((unhide HST4).quiet (unhide HK5)); have HRW5 := hide (own_kept (unhide HRW4) (unhide HK5) (by simp)); have HIM2 := hide (image_any (unhide HST5).dk))
                | (go_at_call 27; refine (unhide HIM2).mono ?_; rintro e w6 ⟨r6, rc6, rfl, ho6, hk6⟩; have HST6 := hide ((unhide HST5).quiet hk6); have HSM := hide (same_q (sees_image ho6 (unhide HST6).dk.ok.byte) (sees_image (own_kept (unhide HRW5) hk6 (by simp)) (unhide HST6).dk.ok.byte)); clear HIM2 ho6 hk6)
                | (go_at_call 28; refine (unhide HSM).mono ?_; rintro e w7 ⟨rfl, hq7⟩; have HST7 := hide ((unhide HST6).quiet hq7.kept); clear hq7 HSM; have HP2 := hide (pending_any (unhide HST7).dk))
                | (go_at_call 23; refine (unhide HP2).mono ?_; rintro e wq ⟨rfl, hq⟩; have hq' := hq.symm; subst hq'; clear hq; clear HP2))
              exact ⟨⟨k + 1, F, d, by omega, by simp, unhide HST7, by omega⟩, by simp [intOf]; omega⟩
            · have HFZ := hide hf
              clear hf
              go_wp2_with (first
                | (guard_target =~ wpList _ _ _ _ _ _; refine wpList_load_mid rfl 41 _ rfl ob (off + k * 7) rfl (oc o) _ (unhide HR) Try.underlying41 rfl size41 ?_)
                | (guard_target =~ wpList _ _ _ _ _ _; refine wpList_alloc_z 41 z41 rfl rfl zero41 ?_)
                | (guard_target =~ wpList _ _ _ _ _ _; refine wpList_store_new _ _ 41 z41.toArray (oc o) rfl rfl rfl rfl size41 rfl (unhide HONE) rfl ?_))
              go_wp2_with (first
                | (go_at_call 27; refine (unhide HIM1).mono ?_; rintro e w2 ⟨r, rc, rfl, ho2, hk2⟩; have HST2 := hide ((unhide HSTW).quiet hk2); have HRW2 := hide ho2; have HK12 : Hid (Kept [] wr w2) := ((Kept.refl [] wr).alloc _).trans hk2 (by simp); have HB2 := hide ((unhide HBW).kept hk2 (by simp)); clear HIM1 ho2 hk2; have HP1 := hide (pending_any (unhide HST2).dk); have HC1 := hide (counts_any (unhide HST2).dk))
                | (go_at_call 23; refine (unhide HP1).mono ?_; rintro e wq ⟨rfl, hq⟩; have hq' := hq.symm; subst hq'; clear hq; clear HP1)
                | (go_at_call 24; refine (unhide HC1).mono ?_; rintro e w3 ⟨rfl, m3, hq3⟩; have HK3 : Hid (Kept [] w2 w3) := (by rw [hq3]; exact kept_drewN _ _); clear HC1 hq3; have HK23 : Hid (Kept [] wr w3) := (unhide HK12).trans (unhide HK3) (by simp); have HST3 := hide ((unhide HST2).quiet (unhide HK3)); have HRW3 := hide (own_kept (unhide HRW2) (unhide HK3) (by simp)); have HB3 := hide ((unhide HB2).kept (unhide HK3) (by simp)); have q1 := (unhide HB3).cell 1; have q2 := (unhide HB3).cell 2; have q3 := (unhide HB3).cell 3; simp [oc] at q1 q2 q3; rw [hk2] at q1; have HOP := hide (sync_yes (unhide HST3).dk (unhide HFZ) (unhide HPL2)))
                | (go_at_call 13; refine (unhide HNUM _ _).mono ?_; rintro e wq ⟨rfl, hq⟩; have hq' := hq.symm; subst hq'; clear hq)
                | (go_at_call 22; refine (unhide HOP).mono ?_; rintro e w4 ⟨rfl, hd4, hn4⟩; have HST4 : Hid (Stand w1 b F d.sync w4) := ⟨hd4, (unhide HST3).nx.trans hn4⟩; have HB4 := hide ((unhide HB3).kept hn4.kept ((unhide HSTW0).new (Nat.le_refl _))); clear hd4 hn4 HOP; have HC2 := hide (counts_any (unhide HST4).dk))
                | (go_at_call 24; refine (unhide HC2).mono ?_; rintro e w5 ⟨rfl, m5, hq5⟩; have HK5 : Hid (Kept [] w4 w5) := (by rw [hq5]; exact kept_drewN _ _); clear HC2 hq5; have HST5 := hide ((unhide HST4).quiet (unhide HK5)); have z1 := ((unhide HB4).kept (unhide HK5) (by simp)).cell 1; simp [oc] at z1; rw [hk2] at z1))
              all_goals exact ⟨⟨k + 1, _, _, by omega, by simp, unhide HST5, by simp [Dm.sync]⟩, by simp [intOf]; omega⟩
          · by_cases hk4 : o.kind = 4
            · clear hk0 hk2
              go_wp2_with (first
                | (guard_target =~ wpList _ _ _ _ _ _; refine wpList_load_mid rfl 41 _ rfl ob (off + k * 7) rfl (oc o) _ (unhide HR) Try.underlying41 rfl size41 ?_)
                | (guard_target =~ wpList _ _ _ _ _ _; refine wpList_alloc_z 41 z41 rfl rfl zero41 ?_)
                | (guard_target =~ wpList _ _ _ _ _ _; refine wpList_store_new _ _ 41 z41.toArray (oc o) rfl rfl rfl rfl size41 rfl (unhide HONE) rfl ?_))
              go_wp2_with (first
                | (go_at_call 27; refine (unhide HIM1).mono ?_; rintro e w2 ⟨r, rc, rfl, ho2, hk2⟩; have HST2 := hide ((unhide HSTW).quiet hk2); have HRW2 := hide ho2; have HK12 : Hid (Kept [] wr w2) := ((Kept.refl [] wr).alloc _).trans hk2 (by simp); have HB2 := hide ((unhide HBW).kept hk2 (by simp)); clear HIM1 ho2 hk2; have HP1 := hide (pending_any (unhide HST2).dk); have HC1 := hide (counts_any (unhide HST2).dk))
                | (go_at_call 23; refine (unhide HP1).mono ?_; rintro e wq ⟨rfl, hq⟩; have hq' := hq.symm; subst hq'; clear hq; clear HP1)
                | (go_at_call 24; refine (unhide HC1).mono ?_; rintro e w3 ⟨rfl, m3, hq3⟩; have HK3 : Hid (Kept [] w2 w3) := (by rw [hq3]; exact kept_drewN _ _); clear HC1 hq3; have HK23 : Hid (Kept [] wr w3) := (unhide HK12).trans (unhide HK3) (by simp); have HST3 := hide ((unhide HST2).quiet (unhide HK3)); have HRW3 := hide (own_kept (unhide HRW2) (unhide HK3) (by simp)); have HB3 := hide ((unhide HB2).kept (unhide HK3) (by simp)); have q1 := (unhide HB3).cell 1; have q2 := (unhide HB3).cell 2; have q3 := (unhide HB3).cell 3; simp [oc] at q1 q2 q3; rw [hk4] at q1; have HOP := hide (fuse_any (unhide HST3).dk o.n (unhide HOO).n))
                | (go_at_call 13; refine (unhide HNUM _ _).mono ?_; rintro e wq ⟨rfl, hq⟩; have hq' := hq.symm; subst hq'; clear hq)
                | (go_at_call 18; refine (unhide HOP).mono ?_; rintro e w4 ⟨rfl, hd4, hn4⟩; have HST4 : Hid (Stand w1 b F (d.setFuse o.n) w4) := ⟨hd4, (unhide HST3).nx.trans hn4⟩; have HB4 := hide ((unhide HB3).kept hn4.kept ((unhide HSTW0).new (Nat.le_refl _))); clear hd4 hn4 HOP; have HC2 := hide (counts_any (unhide HST4).dk))
                | (go_at_call 24; refine (unhide HC2).mono ?_; rintro e w5 ⟨rfl, m5, hq5⟩; have HK5 : Hid (Kept [] w4 w5) := (by rw [hq5]; exact kept_drewN _ _); clear HC2 hq5; have HST5 := hide ((unhide HST4).quiet (unhide HK5)); have z1 := ((unhide HB4).kept (unhide HK5) (by simp)).cell 1; simp [oc] at z1; rw [hk4] at z1))
              all_goals exact ⟨⟨k + 1, _, _, by omega, by simp, unhide HST5, by simp [Dm.setFuse]; omega⟩, by simp [intOf]; omega⟩
            · by_cases hk1 : o.kind = 1
              · clear hk0 hk2 hk4
                by_cases hz : rE d o.n = 0
                · obtain ⟨x, hx, -, -⟩ := rE_zero hz
                  rw [hx] at hz
                  have HX := hide hx
                  have HZ := hide hz
                  clear hz hx
                  go_wp2_with (first
                    | (guard_target =~ wpList _ _ _ _ _ _; refine wpList_load_mid rfl 41 _ rfl ob (off + k * 7) rfl (oc o) _ (unhide HR) Try.underlying41 rfl size41 ?_)
                    | (guard_target =~ wpList _ _ _ _ _ _; refine wpList_alloc_z 41 z41 rfl rfl zero41 ?_)
                    | (guard_target =~ wpList _ _ _ _ _ _; refine wpList_store_new _ _ 41 z41.toArray (oc o) rfl rfl rfl rfl size41 rfl (unhide HONE) rfl ?_))
                  go_wp2_with (first
                    | (go_at_call 27; refine (unhide HIM1).mono ?_; rintro e w2 ⟨r, rc, rfl, ho2, hk2⟩; have HST2 := hide ((unhide HSTW).quiet hk2); have HRW2 := hide ho2; have HK12 : Hid (Kept [] wr w2) := ((Kept.refl [] wr).alloc _).trans hk2 (by simp); have HB2 := hide ((unhide HBW).kept hk2 (by simp)); clear HIM1 ho2 hk2; have HP1 := hide (pending_any (unhide HST2).dk); have HC1 := hide (counts_any (unhide HST2).dk))
                    | (go_at_call 23; refine (unhide HP1).mono ?_; rintro e wq ⟨rfl, hq⟩; have hq' := hq.symm; subst hq'; clear hq; clear HP1)
                    | (go_at_call 24; refine (unhide HC1).mono ?_; rintro e w3 ⟨rfl, m3, hq3⟩; have HK3 : Hid (Kept [] w2 w3) := (by rw [hq3]; exact kept_drewN _ _); clear HC1 hq3; have HK23 : Hid (Kept [] wr w3) := (unhide HK12).trans (unhide HK3) (by simp); have HST3 := hide ((unhide HST2).quiet (unhide HK3)); have HRW3 := hide (own_kept (unhide HRW2) (unhide HK3) (by simp)); have HB3 := hide ((unhide HB2).kept (unhide HK3) (by simp)); have q1 := (unhide HB3).cell 1; have q2 := (unhide HB3).cell 2; have q3 := (unhide HB3).cell 3; simp [oc] at q1 q2 q3; rw [hk1] at q1; rw [unhide HX] at q2; have HOP := hide (read_yes (unhide HST3).dk (k := x) (unhide HZ) (unhide HPL2)))
                    | (go_at_call 13; refine (unhide HNUM _ _).mono ?_; rintro e wq ⟨rfl, hq⟩; have hq' := hq.symm; subst hq'; clear hq)
                    | (go_at_call 21; refine (unhide HOP).mono ?_; rintro e w4 ⟨r4, rfl, -, -, hk4'⟩; have HST4 := hide ((unhide HST3).quiet hk4'); have HRW4 := hide (own_kept (unhide HRW3) hk4' (by simp)); clear hk4' HOP; have HC2 := hide (counts_any (unhide HST4).dk))
                    | (go_at_call 24; refine (unhide HC2).mono ?_; rintro e w5 ⟨rfl, m5, hq5⟩; have HK5 : Hid (Kept [] w4 w5) := (by rw [hq5]; exact kept_drewN _ _); clear HC2 hq5; have HST5 := hide ((unhide HST4).quiet (unhide HK5)); have HRW5 := hide (own_kept (unhide HRW4) (unhide HK5) (by simp)); have HIM2 := hide (image_any (unhide HST5).dk))
                    | (go_at_call 27; refine (unhide HIM2).mono ?_; rintro e w6 ⟨r6, rc6, rfl, ho6, hk6⟩; have HST6 := hide ((unhide HST5).quiet hk6); have HSM := hide (same_q (sees_image ho6 (unhide HST6).dk.ok.byte) (sees_image (own_kept (unhide HRW5) hk6 (by simp)) (unhide HST6).dk.ok.byte)); clear HIM2 ho6 hk6)
                    | (go_at_call 28; refine (unhide HSM).mono ?_; rintro e w7 ⟨rfl, hq7⟩; have HST7 := hide ((unhide HST6).quiet hq7.kept); clear hq7 HSM; have HP2 := hide (pending_any (unhide HST7).dk))
                    | (go_at_call 23; refine (unhide HP2).mono ?_; rintro e wq ⟨rfl, hq⟩; have hq' := hq.symm; subst hq'; clear hq; clear HP2))
                  exact ⟨⟨k + 1, F, d, by omega, by simp, unhide HST7, by omega⟩, by simp [intOf]; omega⟩
                · have HZ := hide hz
                  clear hz
                  go_wp2_with (first
                    | (guard_target =~ wpList _ _ _ _ _ _; refine wpList_load_mid rfl 41 _ rfl ob (off + k * 7) rfl (oc o) _ (unhide HR) Try.underlying41 rfl size41 ?_)
                    | (guard_target =~ wpList _ _ _ _ _ _; refine wpList_alloc_z 41 z41 rfl rfl zero41 ?_)
                    | (guard_target =~ wpList _ _ _ _ _ _; refine wpList_store_new _ _ 41 z41.toArray (oc o) rfl rfl rfl rfl size41 rfl (unhide HONE) rfl ?_))
                  go_wp2_with (first
                    | (go_at_call 27; refine (unhide HIM1).mono ?_; rintro e w2 ⟨r, rc, rfl, ho2, hk2⟩; have HST2 := hide ((unhide HSTW).quiet hk2); have HRW2 := hide ho2; have HK12 : Hid (Kept [] wr w2) := ((Kept.refl [] wr).alloc _).trans hk2 (by simp); have HB2 := hide ((unhide HBW).kept hk2 (by simp)); clear HIM1 ho2 hk2; have HP1 := hide (pending_any (unhide HST2).dk); have HC1 := hide (counts_any (unhide HST2).dk))
                    | (go_at_call 23; refine (unhide HP1).mono ?_; rintro e wq ⟨rfl, hq⟩; have hq' := hq.symm; subst hq'; clear hq; clear HP1)
                    | (go_at_call 24; refine (unhide HC1).mono ?_; rintro e w3 ⟨rfl, m3, hq3⟩; have HK3 : Hid (Kept [] w2 w3) := (by rw [hq3]; exact kept_drewN _ _); clear HC1 hq3; have HK23 : Hid (Kept [] wr w3) := (unhide HK12).trans (unhide HK3) (by simp); have HST3 := hide ((unhide HST2).quiet (unhide HK3)); have HRW3 := hide (own_kept (unhide HRW2) (unhide HK3) (by simp)); have HB3 := hide ((unhide HB2).kept (unhide HK3) (by simp)); have q1 := (unhide HB3).cell 1; have q2 := (unhide HB3).cell 2; have q3 := (unhide HB3).cell 3; simp [oc] at q1 q2 q3; rw [hk1] at q1; have HOP := hide (read_no (unhide HST3).dk (unhide HZ)); have HST4 := HST3; have HRW4 := HRW3; have HC2 := hide (counts_any (unhide HST4).dk))
                    | (go_at_call 13; refine (unhide HNUM _ _).mono ?_; rintro e wq ⟨rfl, hq⟩; have hq' := hq.symm; subst hq'; clear hq)
                    | (go_at_call 21; refine (unhide HOP).mono ?_; rintro e wq ⟨rfl, hq⟩; have hq' := hq.symm; subst hq'; clear hq; clear HOP)
                    | (go_at_call 24; refine (unhide HC2).mono ?_; rintro e w5 ⟨rfl, m5, hq5⟩; have HK5 : Hid (Kept [] w3 w5) := (by rw [hq5]; exact kept_drewN _ _); clear HC2 hq5; have HST5 := hide ((unhide HST4).quiet (unhide HK5)); have HRW5 := hide (own_kept (unhide HRW4) (unhide HK5) (by simp)); have HIM2 := hide (image_any (unhide HST5).dk))
                    | (go_at_call 27; refine (unhide HIM2).mono ?_; rintro e w6 ⟨r6, rc6, rfl, ho6, hk6⟩; have HST6 := hide ((unhide HST5).quiet hk6); have HSM := hide (same_q (sees_image ho6 (unhide HST6).dk.ok.byte) (sees_image (own_kept (unhide HRW5) hk6 (by simp)) (unhide HST6).dk.ok.byte)); clear HIM2 ho6 hk6)
                    | (go_at_call 28; refine (unhide HSM).mono ?_; rintro e w7 ⟨rfl, hq7⟩; have HST7 := hide ((unhide HST6).quiet hq7.kept); clear hq7 HSM; have HP2 := hide (pending_any (unhide HST7).dk))
                    | (go_at_call 23; refine (unhide HP2).mono ?_; rintro e wq ⟨rfl, hq⟩; have hq' := hq.symm; subst hq'; clear hq; clear HP2))
                  exact ⟨⟨k + 1, F, d, by omega, by simp, unhide HST7, by omega⟩, by simp [intOf]; omega⟩
              · have u0 : (o.kind == 0) = false := by simp [hk0]
                have u2 : (o.kind == 2) = false := by simp [hk2]
                have u4 : (o.kind == 4) = false := by simp [hk4]
                have u1 : (o.kind == 1) = false := by simp [hk1]
                clear hk0 hk1 hk2 hk4
                go_wp2_with (first
                  | (guard_target =~ wpList _ _ _ _ _ _; refine wpList_load_mid rfl 41 _ rfl ob (off + k * 7) rfl (oc o) _ (unhide HR) Try.underlying41 rfl size41 ?_)
                  | (guard_target =~ wpList _ _ _ _ _ _; refine wpList_alloc_z 41 z41 rfl rfl zero41 ?_)
                  | (guard_target =~ wpList _ _ _ _ _ _; refine wpList_store_new _ _ 41 z41.toArray (oc o) rfl rfl rfl rfl size41 rfl (unhide HONE) rfl ?_))
                go_wp2_with (first
                  | (go_at_call 27; refine (unhide HIM1).mono ?_; rintro e w2 ⟨r, rc, rfl, ho2, hk2⟩; have HST2 := hide ((unhide HSTW).quiet hk2); have HRW2 := hide ho2; have HK12 : Hid (Kept [] wr w2) := ((Kept.refl [] wr).alloc _).trans hk2 (by simp); have HB2 := hide ((unhide HBW).kept hk2 (by simp)); clear HIM1 ho2 hk2; have HP1 := hide (pending_any (unhide HST2).dk); have HC1 := hide (counts_any (unhide HST2).dk))
                  | (go_at_call 23; refine (unhide HP1).mono ?_; rintro e wq ⟨rfl, hq⟩; have hq' := hq.symm; subst hq'; clear hq; clear HP1)
                  | (go_at_call 24; refine (unhide HC1).mono ?_; rintro e w3 ⟨rfl, m3, hq3⟩; have HK3 : Hid (Kept [] w2 w3) := (by rw [hq3]; exact kept_drewN _ _); clear HC1 hq3; have HK23 : Hid (Kept [] wr w3) := (unhide HK12).trans (unhide HK3) (by simp); have HST3 := hide ((unhide HST2).quiet (unhide HK3)); have HRW3 := hide (own_kept (unhide HRW2) (unhide HK3) (by simp)); have HB3 := hide ((unhide HB2).kept (unhide HK3) (by simp)); have q1 := (unhide HB3).cell 1; have q2 := (unhide HB3).cell 2; have q3 := (unhide HB3).cell 3; simp [oc] at q1 q2 q3; have HST4 := HST3; have HB4 := HB3; have HC2 := hide (counts_any (unhide HST4).dk))
                  | (go_at_call 13; refine (unhide HNUM _ _).mono ?_; rintro e wq ⟨rfl, hq⟩; have hq' := hq.symm; subst hq'; clear hq)
                  | (go_at_call 24; refine (unhide HC2).mono ?_; rintro e w5 ⟨rfl, m5, hq5⟩; have HK5 : Hid (Kept [] w3 w5) := (by rw [hq5]; exact kept_drewN _ _); clear HC2 hq5; have HST5 := hide ((unhide HST4).quiet (unhide HK5)); have z1 := ((unhide HB4).kept (unhide HK5) (by simp)).cell 1; simp [oc] at z1; skip))
                all_goals exact ⟨⟨k + 1, _, _, by omega, by simp, unhide HST5, by omega⟩, by simp [intOf]; omega⟩
      · obtain rfl : k = L := by omega
        have HPL2 : Hid ((d.setFuse (-1)).pend.length ≤ 9223372036854775807) := by unfold Hid; simp [Dm.setFuse]; omega
        have HFU := hide (fuse_any hst.dk (-1) (by omega))
        clear hst
        obtain ⟨d2, hd2⟩ : ∃ d2, d2 = (d.setFuse (-1)).sync := ⟨_, rfl⟩
        have hfz : d2.fuse = none := by rw [hd2]; rfl
        have hpz : d2.pend = [] := by rw [hd2]; rfl
        have HD2 := hide (⟨hd2, hfz, hpz⟩ : _ ∧ _ ∧ _)
        clear hd2 hfz hpz
        go_wp2_with (first
          | (go_at_call 18; refine (unhide HFU).mono ?_; rintro e w2 ⟨rfl, hd, hn⟩; have HST2 : Hid (Stand w1 b F (d.setFuse (-1)) w2) := ⟨hd, (unhide HST).nx.trans hn⟩; clear hd hn HFU; have HSY := hide (sync_yes (unhide HST2).dk (by simp [Dm.setFuse, fuseOf]) (unhide HPL2)); rw [← (unhide HD2).1] at HSY)
          | (go_at_call 22; refine (unhide HSY).mono ?_; rintro e w3 ⟨rfl, hd, hn⟩; have HST3 : Hid (Stand w1 b F d2 w3) := ⟨hd, (unhide HST2).nx.trans hn⟩; clear hd hn HSY; have HP := hide (pending_any (unhide HST3).dk); have HIM := hide (image_any (unhide HST3).dk); rw [(unhide HD2).2.2] at HP)
          | (go_at_call 23; refine (unhide HP).mono ?_; rintro e wq ⟨rfl, hq⟩; have hq' := hq.symm; subst hq'; clear hq HP)
          | (go_at_call 13; refine (unhide HNUM _ _).mono ?_; rintro e wq ⟨rfl, hq⟩; have hq' := hq.symm; subst hq'; clear hq)
          | (go_at_call 27; refine (unhide HIM).mono ?_; rintro e w4 ⟨r, rc, rfl, ho4, hk4⟩; have HST4 := hide ((unhide HST3).quiet hk4); have HRW4 := hide ho4; have HRF : Hid (r ∉ F) := (by obtain ⟨g9, c9, hv9, hb9, -⟩ := row_of_own ho4 (by have := (unhide HST4).dk.ok.one; omega); injection hv9 with e7; injection e7 with e7; injection e7 with e7; exact (unhide HST3).new (by omega)); clear ho4 hk4 HIM))
        have HOK := hide (unhide HST4).dk.ok
        have hn2 := (unhide HOK).most
        obtain ⟨N, hN⟩ : ∃ N, N = d2.n := ⟨_, rfl⟩
        rw [← hN] at hn2 HRW4 ⊢
        have HNN := hide hN
        clear hN
        have hrc : 64 * N ≤ rc := by
          obtain ⟨g9, c9, hv9, -, -, h9, -⟩ := row_of_own (unhide HRW4) (by have := (unhide HOK).one; rw [← unhide HNN] at this; omega)
          injection hv9 with e7 e8 e9
          omega
        go_loopw [25] (fun i wr => ∃ j : Nat, j ≤ N ∧ i = .int .i64 j ∧ Stand w1 b F d2 wr ∧ wr.ownsRow w3.heap.size 5 1 (.slice (some ⟨r, 0, none⟩) (64 * N) rc) (64 * N) (u8s d2.safe)) (fun i _ => N - (intOf i).toNat)
        case atStart => exact ⟨0, by omega, rfl, unhide HST4, unhide HRW4⟩
        case round =>
          obtain ⟨j, hj, rfl, hst, hrw⟩ := hrel
          have HSTJ := hide hst
          have HRWJ := hide hrw
          have HSE := hide (sectors_any hst.dk)
          rw [← unhide HNN] at HSE
          clear hst hrw
          by_cases hjn : j < N
          · have hrz : rE d2 (j : Int) = 0 := by
              have := unhide HNN
              simp only [rE, (unhide HD2).2.1]
              rw [if_neg (by simp), if_neg (by omega)]
            have HRD := hide (read_yes (unhide HSTJ).dk hrz (by rw [(unhide HD2).2.2]; simp))
            have hne : newest d2 j = sect d2.safe j := by unfold newest; rw [(unhide HD2).2.2]; rfl
            rw [hne] at HRD
            have HSL := hide (sect_len (s := d2.safe) (k := j) (m := d2.n) (unhide HOK).len (by rw [← unhide HNN]; exact hjn))
            have HBY := hide (sect_bytes (k := j) (unhide HOK).byte)
            have HSS := hide (fun wx (hx : Kept [] wr wx) => sees_sub (own_kept (unhide HRWJ) hx (by simp)) (unhide HOK).byte hjn)
            clear hrz hne
            have t1 : (j : Int) < (N : Int) := by omega
            have t2 : (64 * (j : Int)).toNat = 64 * j := by omega
            have t3 : 64 * (j : Int) + 64 ≤ (rc : Int) := by omega
            have t4 : (64 * (j : Int) + 64).toNat = 64 * j + 64 := by omega
            have t5 : 64 * j + 64 - 64 * j = 64 := by omega
            have t6 : (rc = 64 * j) = False := by simp; omega
            go_wp2_with (first
              | (go_at_call 26; refine (unhide HSE).mono ?_; rintro e wq ⟨rfl, hq⟩; have hq' := hq.symm; subst hq'; clear hq HSE)
              | (go_at_call 21; refine (unhide HRD).mono ?_; rintro e w6 ⟨r6, rfl, hb6, -, hk6⟩; have HST6 := hide ((unhide HSTJ).quiet hk6); have HRW6 := hide (own_kept (unhide HRWJ) hk6 (by simp)); have HSM := hide (same_q (Sees.of_blk (unhide HSL) hb6 (unhide HBY) 64 (by omega) (by omega)) (unhide HSS _ hk6)); clear hb6 hk6 HRD)
              | (go_at_call 13; refine (unhide HNUM _ _).mono ?_; rintro e wq ⟨rfl, hq⟩; have hq' := hq.symm; subst hq'; clear hq)
              | (go_at_call 28; refine (unhide HSM).mono ?_; rintro e w7 ⟨rfl, hq7⟩; have HST7 := hide ((unhide HST6).quiet hq7.kept); have HRW7 := hide (own_kept (unhide HRW6) hq7.kept (by simp)); clear hq7 HSM))
            exact ⟨⟨j + 1, by omega, by simp, unhide HST7, unhide HRW7⟩, by simp [intOf]; omega⟩
          · obtain rfl : j = N := by omega
            have HKV := hide ((unhide HK2).keptE (unhide HSTJ).nx.kept)
            have HCR := hide (crash_anyO (unhide HSTJ).dk (by rw [(unhide HD2).2.2]; simp) (unhide HKV) (by
              obtain ⟨a9, c9, hv9, -, h9⟩ := unhide HK2
              by_cases h0 : ks = []
              · exact Or.inl h0
              · refine Or.inr fun q9 hq9 => ?_
                obtain ⟨b9, o9, e9, hb9, -⟩ := h9 0 (List.length_pos_iff.2 h0)
                rw [hv9, e9] at hq9
                simp [Value.ownBlock] at hq9
                exact (unhide HSTJ).away (by omega)) torn cut)
            have hsf : (d2.crash ks torn cut).safe = d2.safe := by simp only [Dm.crash]; rw [(unhide HD2).2.2]; rfl
            have HSF := hide hsf
            clear hsf
            have t1 : ((j : Int) < (j : Int)) = False := by simp
            go_wp2_with (first
              | (go_at_call 26; refine (unhide HSE).mono ?_; rintro e wq ⟨rfl, hq⟩; have hq' := hq.symm; subst hq'; clear hq HSE)
              | (go_at_call 25; refine (unhide HCR).mono ?_; rintro e w6 ⟨rfl, hd6, hn6⟩; have HST6 : Hid (Stand w1 b F (d2.crash ks torn cut) w6) := ⟨hd6, (unhide HSTJ).nx.trans hn6⟩; have HRW6 := hide (own_kept (unhide HRWJ) hn6.kept (fun q hq => by simp [Value.ownBlock] at hq; subst hq; exact unhide HRF)); clear hd6 hn6 HCR; have HIM := hide (image_any (unhide HST6).dk); rw [unhide HSF, show (d2.crash ks torn cut).n = d2.n from rfl, ← unhide HNN] at HIM)
              | (go_at_call 27; refine (unhide HIM).mono ?_; rintro e w7 ⟨r7, rc7, rfl, ho7, hk7⟩; have HST7 := hide ((unhide HST6).quiet hk7); have HSM := hide (same_q (sees_image ho7 (unhide HOK).byte) (sees_image (own_kept (unhide HRW6) hk7 (by simp)) (unhide HOK).byte)); clear ho7 hk7 HIM)
              | (go_at_call 28; refine (unhide HSM).mono ?_; rintro e w8 ⟨rfl, hq8⟩; have HST8 := hide ((unhide HST7).quiet hq8.kept); clear hq8 HSM))
            go_ret
            exact ⟨rfl, (unhide HK1).trans (unhide HST8).nx.kept (by simp)⟩
end Go.Proofs.Ytfaoblnghkiibaa
