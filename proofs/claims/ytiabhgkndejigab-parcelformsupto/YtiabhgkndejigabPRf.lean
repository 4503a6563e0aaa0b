/- ParcelRefuses: the walk. -/
import Derived.Test.YtiabhgkndejigabPW
import Derived.Test.YtiabhgkndejigabPT
import Derived.Deep.CutBlock
import Derived.Deep.DeepCutAuto
namespace Go.Proofs.Ytiabhgkndejigab
open Go.RowKit

theorem sumT_take (ts : List Th) (k : Nat) (h : k < ts.length) : sumT (ts.take (k + 1)) = sumT (ts.take k) + ts[k].p.length + 10 := by
  rw [List.take_succ_eq_append_getElem h, sumT_append]; simp [sumT]; omega
theorem sumT_take_le (ts : List Th) (k : Nat) : sumT (ts.take k) ≤ sumT ts := by
  have : sumT ts = sumT (ts.take k) + sumT (ts.drop k) := by rw [← sumT_append, List.take_append_drop]
  omega
theorem sum1_len (ts : List Th) : ts.length ≤ sum1 ts ∧ sumT ts ≤ 10 * sum1 ts ∧ ∀ t ∈ ts, t.p.length ≤ sum1 ts := by
  induction ts with
  | nil => simp [sum1, sumT]
  | cons t ts ih =>
    have e : sum1 (t :: ts) = 1 + t.p.length + sum1 ts := by simp [sum1]
    rw [e, sumT_cons]
    obtain ⟨h1, h2, h3⟩ := ih
    refine ⟨by simp; omega, by omega, fun u hu => ?_⟩
    rcases List.mem_cons.1 hu with rfl | hu
    · omega
    · have := h3 u hu; omega

theorem shutT_ok : shutT.ok := ⟨by decide, by decide, by decide, by decide, by decide, by intro x hx; cases hx⟩
theorem AllT.shut {w : World} {ts : List Th} (h : AllT w ts) : AllT w (shut 0 ts) := by
  intro t ht
  rcases shut_mem ts 0 t ht with h' | rfl
  · exact h t h'
  · exact ⟨shutT_ok, Or.inl (Or.inl ⟨rfl, rfl⟩)⟩

theorem takenS_fault (c k : Nat) (hk : k < 9) (hc : c ≠ 0) (i : Int) : takenS (rF c) k i = (rF c, 0, if k = 0 ∨ k = 3 then 0 else i, []) := by
  have hb : rByte (rF c) = (rF c, 0) := by rw [rByte, if_pos (by exact hc)]
  have hf : ∀ z, rFixed (rF c) z = (rF c, 0) := fun z => by rw [rFixed, if_pos (by exact hc)]
  have hn : rNum (rF c) = (rF c, 0) := by rw [rNum, if_pos (by exact hc)]
  have hi : rInt (rF c) = (rF c, 0) := by rw [rInt, hn]; exact congrArg _ (show unfoldN 0 = 0 by decide)
  have hr : rReal (rF c) = (rF c, 0) := by rw [rReal, if_pos (by exact hc)]
  have hw : ∀ z, rRaw (rF c) z = (rF c, []) := fun z => by rw [rRaw, if_pos (by exact hc)]
  have ht : ∀ z, rText (rF c) z = (rF c, []) := fun z => by rw [rText, if_pos (by exact hc)]
  have he : rEnter (rF c) = (rF c, 0) := by rw [rEnter, if_pos (by exact hc)]
  have hl : rLeave (rF c) = rF c := by rw [rLeave, if_pos (by exact hc)]
  match k, hk with
  | 0, _ => simp [takenS, hb]
  | 1, _ => simp [takenS, hf]
  | 2, _ => simp [takenS, hn]
  | 3, _ => simp [takenS, hi]
  | 4, _ => simp [takenS, hr]
  | 5, _ => simp [takenS, hw]
  | 6, _ => simp [takenS, ht]
  | 7, _ => simp [takenS, he]
  | 8, _ => simp [takenS, hl]

theorem tlay_fault (t : Th) (c : Nat) (hc : c ≠ 0) : t.lay (failWS c) = failWS c := lay_fault t _ hc

/-- The state behind so many Opens. -/
def opened (room : Nat) (bs : List Nat) (j : Nat) : WS := if j ≤ 16 then ⟨room, bs, List.replicate j bs.length, 0⟩ else failWS 11
theorem opened_step (room : Nat) (bs : List Nat) (j : Nat) : wOpen (opened room bs j) = opened room bs (j + 1) := by
  unfold opened
  by_cases h : j ≤ 16
  · rw [if_pos h]
    by_cases h2 : j = 16
    · subst h2; simp [wOpen]
    · rw [if_pos (by omega)]
      simp [wOpen, h2, List.replicate_succ']
  · rw [if_neg h, if_neg (by omega)]
    simp [wOpen, failWS]

/-- A writer of the call's own. -/
def WOwnS (w : World) (b : Nat) (s : WS) (w' : World) : Prop := ∃ F, Ws w' b F s ∧ Kept [] w w' ∧ ∀ x ∈ F, w.heap.size ≤ x
theorem WOwnS.go {w W w' : World} {b : Nat} {F : List Nat} {s s' : WS} (h : Ws W b F s ∧ Kept [] w W ∧ ∀ x ∈ F, w.heap.size ≤ x) (hp : WsP W b F s' w') : WOwnS w b s' w' := by
  obtain ⟨F', g1, g2, g3⟩ := hp
  refine ⟨F', g1, h.2.1.trans g2 (fun x hx => Or.inr (h.2.2 x hx)), fun x hx => ?_⟩
  rcases g3 x hx with h' | h'
  · exact h.2.2 x h'
  · have := h.2.1.size; omega
theorem WOwnS.kept {w W w' : World} {b : Nat} {s : WS} (h : WOwnS w b s W) (k : Kept [] W w') : WOwnS w b s w' := by
  obtain ⟨F, g1, g2, g3⟩ := h
  exact ⟨F, g1.kept k (by simp), g2.trans k (by simp), g3⟩
/-- A writer and a reader of the call's own, apart. -/
def Both (w : World) (b : Nat) (s : WS) (rb : Nat) (r : RS) (w' : World) : Prop := ∃ F G, Ws w' b F s ∧ Rs w' rb G r ∧ Kept [] w w' ∧ (∀ x ∈ F, w.heap.size ≤ x) ∧ (∀ x ∈ G, w.heap.size ≤ x) ∧ ∀ x ∈ F, x ∉ G
theorem Both.kept {w W w' : World} {b rb : Nat} {s : WS} {r : RS} (h : Both w b s rb r W) (k : Kept [] W w') : Both w b s rb r w' := by
  obtain ⟨F, G, g1, g2, g3, g4⟩ := h
  exact ⟨F, G, g1.kept k (by simp), g2.kept k (by simp), g3.trans k (by simp), g4⟩
theorem Both.write {w W w' : World} {b rb : Nat} {s s' : WS} {r : RS} {F G : List Nat} (_h1 : Ws W b F s) (h2 : Rs W rb G r) (h3 : Kept [] w W) (h4 : ∀ x ∈ F, w.heap.size ≤ x) (h5 : ∀ x ∈ G, w.heap.size ≤ x) (h6 : ∀ x ∈ F, x ∉ G) (hp : WsP W b F s' w') : Both w b s' rb r w' := by
  obtain ⟨F', g1, g2, g3⟩ := hp
  refine ⟨F', G, g1, h2.kept g2 (fun x hx hf => h6 x hf hx), h3.trans g2 (fun x hx => Or.inr (h4 x hx)), fun x hx => ?_, h5, apart_go h2.lt g3 h6⟩
  rcases g3 x hx with h' | h'
  · exact h4 x h'
  · have := h3.size; omega
theorem Both.read {w W w' : World} {b rb : Nat} {s : WS} {r r' : RS} {F G : List Nat} (h1 : Ws W b F s) (_h2 : Rs W rb G r) (h3 : Kept [] w W) (h4 : ∀ x ∈ F, w.heap.size ≤ x) (h5 : ∀ x ∈ G, w.heap.size ≤ x) (h6 : ∀ x ∈ F, x ∉ G) (hp : RsP W rb G r' w') : Both w b s rb r' w' := by
  obtain ⟨G', g1, g2, g3⟩ := hp
  refine ⟨F, G', h1.kept g2 h6, g1, h3.trans g2 (fun x hx => Or.inr (h5 x hx)), h4, fun x hx => ?_, fun x hx hg => ?_⟩
  · rcases g3 x hx with h' | h'
    · exact h5 x h'
    · have := h3.size; omega
  · rcases g3 x hg with h' | h'
    · exact h6 x hx h'
    · have := h1.lt x hx; omega

theorem sees_zeros (w : World) (n : Nat) (hn : n ≤ 1000) : Sees (w.alloc (.cells (Array.replicate n (.int .u8 0)) 5)) (.slice (some ⟨w.heap.size, 0, none⟩) n n) (List.replicate n 0) := by
  refine Or.inr ⟨w.heap.size, 0, n, by simp, by simp, by unfold maxLen; omega, by simp, fun j hj => ?_⟩
  rw [(Blk.new w _ _).cell]
  simp at hj
  simp [hj]

theorem make30 (w : World) : (Instr.makeSlice 22 (.int .i64 30) (.int .i64 30)).run Try.prog w = .ok (.slice (some ⟨w.heap.size, 0, none⟩) 30 30) (w.alloc (.cells (Array.replicate 30 (.int .u8 0)) 5)) := by kernel_rfl
theorem make30' : ∃ zs : Array Value, (∀ w, (Instr.makeSlice 22 (.int .i64 30) (.int .i64 30)).run Try.prog w = .ok (.slice (some ⟨w.heap.size, 0, none⟩) 30 30) (w.alloc (.cells zs 5))) ∧ ∀ w : World, Sees (w.alloc (.cells zs 5)) (.slice (some ⟨w.heap.size, 0, none⟩) 30 30) (List.replicate 30 0) :=
  ⟨_, make30, fun w => sees_zeros w 30 (by omega)⟩

/-- The reader that a wrong call has spoilt. -/
theorem Both.new {w W w' : World} {b rb : Nat} {s : WS} {r : RS} {G : List Nat} (h : WOwnS w b s W) (k : Kept [] W w') (h1 : Rs w' rb G r) (h2 : ∀ x ∈ G, W.heap.size ≤ x) : Both w b s rb r w' := by
  obtain ⟨F, g1, g2, g3⟩ := h
  have hs := g2.size
  exact ⟨F, G, g1.kept k (by simp), h1, g2.trans k (by simp), g3, fun x hx => by have := h2 x hx; omega, fun x hx hg => by have := g1.lt x hx; have := h2 x hg; omega⟩

theorem taken_fault {w : World} {b : Nat} {F : List Nat} {f : Nat} (h : Rs w b F (rF f)) (hf : f ≠ 0) (kd wh : Int) (K : Nat) (hK : rnd kd 9 = K) (J : Int) (hJ : (if K = 0 ∨ K = 3 then 0 else 3) = J) :
    Calls Try.prog 13 #[.pointer (some ⟨b, 0, none⟩), .agg #[.int .i64 kd, .int .i64 wh, .int .i64 3]] w fun e w' => ∃ a cap, e = .returned (.agg #[.int .i64 (K : Nat), .int .u64 0, .int .i64 J, .slice a 0 cap]) ∧ RsP w b F (rF f) w' := by
  have hlt := rnd_lt kd 9 (by omega)
  refine (taken_any h kd wh 3 (by omega)).mono ?_
  intro e w' hp
  rw [takenS_fault f _ hlt hf, hK, hJ] at hp
  obtain ⟨a, cap, rfl, _, hp⟩ := hp
  exact ⟨a, cap, rfl, hp⟩

set_option maxRecDepth 100000 in
set_option maxHeartbeats 2000000 in
theorem refuses_walk {w : World} {v v2 : Value} {ts vs : List Th} (wrong : Int) (h : RowT w v ts) (ha : AllT w ts) (hp : ∀ t ∈ ts, t.p.length ≤ 4611686018427387904) (h2 : RowT w v2 vs) (ha2 : AllT w vs) (hp2 : ∀ t ∈ vs, t.p.length ≤ 4611686018427387904) :
    Calls Try.prog 5 #[v, .int .i64 wrong, v2] w fun e w' => e = .returned (.bool true) ∧ Kept [] w w' := by
  have HL := hide (long_any h hp)
  have HL2 := hide (fun W (k : Kept [] w W) => long_any (h2.kept k (by simp)) hp2)
  have HH := hide h
  have HA := hide ha
  have HH2 := hide h2
  have HA2 := hide ha2
  obtain ⟨a, cap, rfl⟩ := h.len
  obtain ⟨a2, cap2, rfl⟩ := h2.len
  clear h ha hp h2 ha2 hp2
  go_enter Try.func5, Try.ntmps5
  go_wp2_with fail
  refine (unhide HL).mono ?_
  rintro e w1 ⟨c, rfl, hc, m, rfl⟩
  clear HL
  cases c with
  | true =>
    go_wp2
    go_ret
    exact ⟨rfl, (Kept.refl _ _).drewN m⟩
  | false =>
    have hsum := hc rfl
    clear hc
    go_wp2_with fail
    refine (unhide HL2 _ ((Kept.refl [] w).drewN m)).mono ?_
    rintro e w1 ⟨c2, rfl, hc2, m2, rfl⟩
    clear HL2
    cases c2 with
    | true =>
      go_wp2
      go_ret
      exact ⟨rfl, (Kept.refl _ _).drewN _⟩
    | false =>
      have hsum2 := hc2 rfl
      obtain ⟨h1, h2, h3⟩ := sum1_len ts
      obtain ⟨h4, h5, h6⟩ := sum1_len vs
      have hlen : ts.length ≤ 1073741824 := by omega
      have hT : sumT ts ≤ 10737418240 := by omega
      have HP3 : Hid (∀ t ∈ ts, t.p.length ≤ 1073741824) := hide fun t ht => by have := h3 t ht; omega
      have HP4 : Hid (∀ t ∈ vs, t.p.length ≤ 1073741824) := hide fun t ht => by have := h6 t ht; omega
      have hvl : vs.length ≤ 1073741824 := by omega
      clear h1 h2 h3 hsum hc2 h4 h5 h6 hsum2
      have HK0 := hide (((Kept.refl [] w).drewN m).drewN m2)
      generalize (w.drewN m).drewN m2 = w0 at *
      go_wp2_with fail
      refine (awake_any _).mono ?_
      rintro e w2 ⟨rfl, hk2⟩
      have HK2 := hide ((unhide HK0).trans hk2 (by simp))
      clear hk2
      go_wp2_with fail
      refine (closed_any ((unhide HH).kept (unhide HK2) (by simp)) (by omega)).mono ?_
      rintro e w3 ⟨ca, cc, rfl, ho3, hk3⟩
      have HR3 := hide (rowT_of_own ho3)
      have HK3 := hide ((unhide HK2).trans hk3 (by simp))
      have HA3 := hide ((unhide HA).shut.kept (unhide HK3))
      have hsh := shut_sum ts 0 (by omega)
      have HM := hide (shut_mem ts 0)
      obtain ⟨bs, hbal⟩ := shut_bal ts
      have HB := hide hbal
      clear ho3 hk3 hbal
      have HPU : Hid (∀ t ∈ shut 0 ts, t.p.length ≤ 1073741824) := hide fun t ht => by
        rcases unhide HM t ht with h | rfl
        · exact unhide HP3 t h
        · simp [shutT]
      have hus : sumT (shut 0 ts) ≤ 21474836480 := by omega
      have hul : (shut 0 ts).length ≤ 21474836480 := by
        have : ∀ us : List Th, us.length ≤ sumT us := by
          intro us
          induction us with
          | nil => simp
          | cons u us ih => rw [sumT_cons]; simp; omega
        have := this (shut 0 ts); omega
      have hokU : Hid (∀ t ∈ shut 0 ts, t.ok) := hide fun t ht => ((unhide HA3) t ht).1
      have hbl := (unhide HB).len (unhide hokU) (by omega)
      clear hsh HM HP3 hT hlen HH HA HK2 HK0
      generalize shut 0 ts = us at *
      go_wp2
      go_loopw [8, 9] (fun rv i wr => ∃ k m : Nat, k ≤ us.length ∧ i = .int .i64 k ∧ rv = .int .i64 ((99 + sumT (us.take k) : Nat) : Int) ∧ wr = w3.drewN m) (fun _ i _ => us.length - (intOf i).toNat)
      case atStart => exact ⟨0, 0, by omega, rfl, by simp [sumT], rfl⟩
      case round =>
        obtain ⟨k, m, hk, rfl, rfl, rfl⟩ := hrel
        by_cases hlt : k < us.length
        · have hrow := unhide HR3
          rcases hrow with ⟨_, _, h2⟩ | ⟨vb, off, cap', hv, _, _, _, h4⟩
          · subst h2; simp at hlt
          cases hv
          obtain ⟨q0, q1, q2, q3⟩ := h4 k hlt
          have hpk := unhide HPU us[k] (List.getElem_mem hlt)
          have HS := hide (sumT_take us k hlt)
          have hle := sumT_take_le us k
          generalize us[k] = t at *
          generalize sumT (us.take k) = S at *
          clear h4
          go_wp2
          go_roundw
          case rel => exact ⟨k + 1, m, by omega, by go_num, by rw [unhide HS]; go_num, rfl⟩
          case measure => simp [intOf]; omega
        · have hk2 : k = us.length := by omega
          subst hk2
          rw [List.take_length]
          clear hlt hk
          have hk0 : Kept [] w3 (w3.drewN m) := (Kept.refl _ _).drewN m
          have HR4 := hide ((unhide HR3).kept hk0 (by simp))
          have HK4 := hide ((unhide HK3).trans hk0 (by simp))
          have HA4 := hide ((unhide HA3).kept hk0)
          clear hk0 HR3 HK3 HA3
          generalize w3.drewN m = w4 at *
          have HRUN : Hid (∀ room, bs.length ≤ room → runW (newWS room) us = ⟨room, bs, [], 0⟩) := hide fun room hr => by
            have := ((unhide HB).run room [] [] (by simp) (by simp)).1 (by simpa using hr)
            simpa [newWS] using this
          clear hokU HB
          generalize hRR : 99 + sumT us = R at *
          have hR : R ≤ 21474836600 := by omega
          have hbR : bs.length ≤ R := by omega
          clear hRR
          go_wp2_with fail
          refine (new_s R _ (by omega)).mono ?_
          rintro e w5 ⟨b, rfl, hw5, hb5, hk5⟩
          have HW5 : Hid (WOwnS w4 b (newWS R) w5) := hide ⟨_, hw5, hk5, by simpa using hb5⟩
          clear hw5 hb5 hk5
          go_wp2
          go_loopw [11] (fun i wr => ∃ (k : Nat), k ≤ us.length ∧ i = .int .i64 k ∧ Hid (WOwnS w4 b (runW (newWS R) (us.take k)) wr)) (fun i _ => us.length - (intOf i).toNat)
          case atStart => exact ⟨0, by omega, rfl, by simpa [runW] using HW5⟩
          case round =>
            clear HW5
            obtain ⟨k, hk, rfl, HI⟩ := hrel
            by_cases hlt : k < us.length
            · obtain ⟨F, hO⟩ := unhide HI
              have HO := hide hO
              clear hO HI
              have hrow := (unhide HR4).kept (unhide HO).2.1 (by simp)
              rcases hrow with ⟨_, _, h2⟩ | ⟨vb, off, cap', hv, _, _, _, h4⟩
              · subst h2; simp at hlt
              cases hv
              obtain ⟨q0, q1, q2, q3⟩ := h4 k hlt
              have hmem := List.getElem_mem hlt
              have hpk := unhide HPU us[k] hmem
              have HT := hide (unhide HA4 us[k] hmem)
              have HST := hide (runW_take (newWS R) us k hlt)
              have hinv := ((WInv.new R).run (us.take k))
              have hi2 : (runW (newWS R) (us.take k)).bs.length ≤ 1000000000000 := by have := hinv.2.1; have := hinv.2.2.1; omega
              have HC := hide (tlay_s (unhide HO).1 us[k] (unhide HT).1 (((unhide HT).2.far (F := F) (fun x hx hf => by have := (unhide HO).2.2 x hf; omega)).keep (unhide HO).2.1) hi2 (by omega) hinv.1)
              clear hinv hi2 h4 hmem
              generalize us[k] = t at *
              unfold Th.val at HC
              go_wp2_with (first | (go_at_call 15; refine (unhide HC).mono ?_; rintro e w7 ⟨rfl, HP7⟩))
              go_roundw
              case rel => exact ⟨k + 1, by omega, by go_num, hide (by rw [unhide HST]; exact WOwnS.go (unhide HO) HP7)⟩
              case measure => simp [intOf]; omega
            · have hk2 : k = us.length := by omega
              subst hk2
              rw [List.take_length, unhide HRUN R hbR] at HI
              clear hlt hk HR4 HA4 HPU HRUN
              have HR6 := hide (fun w => round_any wrong 6 w (by omega) (by omega))
              have HR5 := hide (fun w => round_any wrong 5 w (by omega) (by omega))
              have h6 := rnd_lt wrong 6 (by omega)
              have h5 := rnd_lt wrong 5 (by omega)
              generalize rnd wrong 6 = j6 at *
              generalize rnd wrong 5 = j5 at *
              go_upto_block 4 with (first | (go_at_call 11; refine (unhide HR6 _).mono ?_; rintro e w' ⟨rfl, rfl⟩))
              go_cut [12] (fun want wc => ∃ c : Nat, want = .int .i64 (c : Nat) ∧ (c = 2 ∨ c = 11) ∧ Hid (WOwnS w4 b (failWS c) wc))
              case first =>
                clear h5
                obtain ⟨F, hO⟩ := unhide HI
                have HO := hide hO
                have HIO := HI
                clear hO HI
                have hw : wFail ⟨R, bs, [], 0⟩ 2 = failWS 2 := by simp [wFail]
                have HWF := hide hw
                have hw2 : wClose ⟨R, bs, [], 0⟩ = failWS 2 := by simp [wClose]
                have HWC := hide hw2
                clear hw hw2
                rcases (by omega : j6 = 0 ∨ j6 = 1 ∨ j6 = 2 ∨ j6 = 3 ∨ j6 = 4 ∨ j6 = 5) with rfl | rfl | rfl | rfl | rfl | rfl
                · go_wp2_with (first | (go_at_call 26; refine (wbyte_outS (unhide HO).1 256 (by omega)).mono ?_; rintro e w6 ⟨rfl, HP⟩))
                  go_meet
                  exact ⟨2, rfl, Or.inl rfl, hide (by rw [← unhide HWF]; exact WOwnS.go (unhide HO) HP)⟩
                · go_wp2_with (first | (go_at_call 26; refine (wbyte_outS (unhide HO).1 (-1) (by omega)).mono ?_; rintro e w6 ⟨rfl, HP⟩))
                  go_meet
                  exact ⟨2, rfl, Or.inl rfl, hide (by rw [← unhide HWF]; exact WOwnS.go (unhide HO) HP)⟩
                · go_wp2_with (first | (go_at_call 27; refine (wfixed_outS (unhide HO).1 1 0 (by omega)).mono ?_; rintro e w6 ⟨rfl, HP⟩))
                  go_meet
                  exact ⟨2, rfl, Or.inl rfl, hide (by rw [← unhide HWF]; exact WOwnS.go (unhide HO) HP)⟩
                · go_wp2_with (first | (go_at_call 27; refine (wfixed_outS (unhide HO).1 1 9 (by omega)).mono ?_; rintro e w6 ⟨rfl, HP⟩))
                  go_meet
                  exact ⟨2, rfl, Or.inl rfl, hide (by rw [← unhide HWF]; exact WOwnS.go (unhide HO) HP)⟩
                · go_wp2_with (first | (go_at_call 20; refine (wclose_s (unhide HO).1 (by simp) (by simp; omega)).mono ?_; rintro e w6 ⟨rfl, HP⟩))
                  go_meet
                  exact ⟨2, rfl, Or.inl rfl, hide (by rw [← unhide HWC]; exact WOwnS.go (unhide HO) HP)⟩
                · go_wp2
                  go_loopw [13] (fun i wr => ∃ (k : Nat), k ≤ 17 ∧ i = .int .i64 k ∧ Hid (WOwnS w4 b (opened R bs k) wr)) (fun i _ => 17 - (intOf i).toNat)
                  case atStart => exact ⟨0, by omega, rfl, hide (by simpa [opened] using unhide HIO)⟩
                  case round =>
                    clear HO HIO
                    obtain ⟨k, hk, rfl, HI⟩ := hrel
                    by_cases hlt : k ≤ 16
                    · obtain ⟨F, hO⟩ := unhide HI
                      have HO := hide hO
                      clear hO HI
                      go_wp2_with (first | (go_at_call 18; refine (wopen_s (unhide HO).1).mono ?_; rintro e w6 ⟨rfl, HP⟩))
                      go_roundw
                      case rel =>
                        (repeat apply Exists.intro)
                        refine ⟨?_, rfl⟩
                        exact ⟨k + 1, by omega, by go_num, hide (by rw [← opened_step]; exact WOwnS.go (unhide HO) HP)⟩
                      case measure => simp [intOf]; omega
                    · have hk2 : k = 17 := by omega
                      subst hk2
                      go_wp2
                      go_meet
                      exact ⟨11, rfl, Or.inr rfl, hide (by simpa [opened] using unhide HI)⟩
              case rest =>
              clear HI HR6
              obtain ⟨c, rfl, hc, HI⟩ := hcut
              obtain ⟨zs, hmk, hsz⟩ := make30'
              have HSZ := hide hsz
              clear hsz
              go_wp2_with fail
              refine (read_s (unhide HSZ _) (by simp) (by simp)).mono ?_
              rintro e w6 ⟨rb0, G0, rfl, hr6, hg6, hk6⟩
              have HB6 : Hid (Both w4 b (failWS c) rb0 ⟨0, List.replicate 30 0, []⟩ w6) := hide (Both.new (unhide HI) (((Kept.refl [] wc).alloc _).trans hk6 (by simp)) hr6 (fun x hx => by have := hg6 x hx; simp at this; omega))
              clear hr6 hg6 hk6 HSZ hmk HI
              have hz1 : (rFixed ⟨0, List.replicate 30 0, []⟩ 0).1 = rF 2 := by simp [rFixed]
              have hz2 : (rFixed ⟨0, List.replicate 30 0, []⟩ 9).1 = rF 2 := by simp [rFixed]
              have hz3 : (rRaw ⟨0, List.replicate 30 0, []⟩ (-1)).1 = rF 2 := by simp [rRaw]
              have hz4 : rLeave ⟨0, List.replicate 30 0, []⟩ = rF 2 := by simp [rLeave]
              have hz5 : rLeave (rEnter ⟨0, [1, 7, 9], []⟩).1 = rF 12 := by simp [rLeave, rEnter, readNum]
              have HZ1 := hide hz1
              have HZ2 := hide hz2
              have HZ3 := hide hz3
              have HZ4 := hide hz4
              have HZ5 := hide hz5
              clear hz1 hz2 hz3 hz4 hz5
              go_upto_block 7 with (first | (go_at_call 11; refine (unhide HR5 _).mono ?_; rintro e w' ⟨rfl, rfl⟩))
              go_cut [14, 15] (fun rv fv wc => ∃ rb f : Nat, rv = .pointer (some ⟨rb, 0, none⟩) ∧ fv = .int .i64 (f : Nat) ∧ (f = 2 ∨ f = 12) ∧ Hid (Both w4 b (failWS c) rb (rF f) wc))
              case first =>
                obtain ⟨F, G, o1, o2, o3, o4, o5, o6⟩ := unhide HB6
                have HO := hide (And.intro o1 (And.intro o2 (And.intro o3 (And.intro o4 (And.intro o5 o6)))))
                clear o1 o2 o3 o4 o5 o6
                rcases (by omega : j5 = 0 ∨ j5 = 1 ∨ j5 = 2 ∨ j5 = 3 ∨ j5 = 4) with rfl | rfl | rfl | rfl | rfl
                · go_wp2_with (first | (go_at_call 28; refine (rfixed_s (unhide HO).2.1 0).mono ?_; rintro e w7 ⟨rfl, HP⟩))
                  go_meet
                  exact ⟨rb0, 2, rfl, rfl, Or.inl rfl, hide (by rw [← unhide HZ1]; obtain ⟨o1, o2, o3, o4, o5, o6⟩ := unhide HO; exact Both.read o1 o2 o3 o4 o5 o6 HP)⟩
                · go_wp2_with (first | (go_at_call 28; refine (rfixed_s (unhide HO).2.1 9).mono ?_; rintro e w7 ⟨rfl, HP⟩))
                  go_meet
                  exact ⟨rb0, 2, rfl, rfl, Or.inl rfl, hide (by rw [← unhide HZ2]; obtain ⟨o1, o2, o3, o4, o5, o6⟩ := unhide HO; exact Both.read o1 o2 o3 o4 o5 o6 HP)⟩
                · go_wp2_with (first | (go_at_call 23; refine (rraw_s (unhide HO).2.1 (-1) (by omega)).mono ?_; rintro e w7 ⟨⟨na, nc, rfl, _⟩, HP⟩))
                  go_meet
                  exact ⟨rb0, 2, rfl, rfl, Or.inl rfl, hide (by rw [← unhide HZ3]; obtain ⟨o1, o2, o3, o4, o5, o6⟩ := unhide HO; exact Both.read o1 o2 o3 o4 o5 o6 HP)⟩
                · go_wp2_with (first | (go_at_call 22; refine (rleave_s (unhide HO).2.1).mono ?_; rintro e w7 ⟨rfl, HP⟩))
                  go_meet
                  exact ⟨rb0, 2, rfl, rfl, Or.inl rfl, hide (by rw [← unhide HZ4]; obtain ⟨o1, o2, o3, o4, o5, o6⟩ := unhide HO; exact Both.read o1 o2 o3 o4 o5 o6 HP)⟩
                · have HW6 : Hid (WOwnS w4 b (failWS c) w6) := hide ⟨F, (unhide HO).1, (unhide HO).2.2.1, (unhide HO).2.2.2.1⟩
                  clear HO HB6
                  go_wp2_with fail
                  refine (read_s (sees_new w6 [1, 7, 9] 5 (by simp)) (by simp) (by simp)).mono ?_
                  rintro e w7 ⟨rb, G1, rfl, hr7, hg7, hk7⟩
                  have HB7 : Hid (Both w4 b (failWS c) rb ⟨0, [1, 7, 9], []⟩ w7) := hide (Both.new (unhide HW6) (((Kept.refl [] w6).alloc _).trans hk7 (by simp)) hr7 (fun x hx => by have := hg7 x hx; simp at this; omega))
                  clear hr7 hg7 hk7 HW6
                  obtain ⟨F, G, o1, o2, o3, o4, o5, o6⟩ := unhide HB7
                  have HO := hide (And.intro o1 (And.intro o2 (And.intro o3 (And.intro o4 (And.intro o5 o6)))))
                  clear o1 o2 o3 o4 o5 o6 HB7
                  go_wp2_with fail
                  refine (renter_s (unhide HO).2.1).mono ?_
                  rintro e w8 ⟨rfl, hp⟩
                  have HB8 : Hid (Both w4 b (failWS c) rb (rEnter ⟨0, [1, 7, 9], []⟩).1 w8) := hide (by obtain ⟨o1, o2, o3, o4, o5, o6⟩ := unhide HO; exact Both.read o1 o2 o3 o4 o5 o6 hp)
                  clear HO hp
                  obtain ⟨F, G, o1, o2, o3, o4, o5, o6⟩ := unhide HB8
                  have HO := hide (And.intro o1 (And.intro o2 (And.intro o3 (And.intro o4 (And.intro o5 o6)))))
                  clear o1 o2 o3 o4 o5 o6 HB8
                  go_wp2_with fail
                  refine (rleave_s (unhide HO).2.1).mono ?_
                  rintro e w9 ⟨rfl, HP⟩
                  go_wp2_with fail
                  go_meet
                  exact ⟨rb, 12, rfl, rfl, Or.inr rfl, hide (by rw [← unhide HZ5]; obtain ⟨o1, o2, o3, o4, o5, o6⟩ := unhide HO; exact Both.read o1 o2 o3 o4 o5 o6 HP)⟩
              case rest =>
              clear HB6 HR5 HZ1 HZ2 HZ3 HZ4 HZ5
              obtain ⟨rb, f, rfl, rfl, hf, HB⟩ := hcut
              have hc0 : c ≠ 0 := by omega
              have hf0 : f ≠ 0 := by omega
              go_wp2
              go_loopw [17] (fun i wr => ∃ (k : Nat), k ≤ vs.length ∧ i = .int .i64 k ∧ Hid (Both w4 b (failWS c) rb (rF f) wr)) (fun i _ => vs.length - (intOf i).toNat)
              case atStart => exact ⟨0, by omega, rfl, HB⟩
              case round =>
                clear HB
                obtain ⟨k, hk, rfl, HB⟩ := hrel
                obtain ⟨F, G, o1, o2, o3, o4, o5, o6⟩ := unhide HB
                have HO := hide (And.intro o1 (And.intro o2 (And.intro o3 (And.intro o4 (And.intro o5 o6)))))
                have HKw := hide ((unhide HK4).trans o3 (by simp))
                clear o1 o2 o3 o4 o5 o6
                by_cases hlt : k < vs.length
                · have hrow := (unhide HH2).kept (unhide HKw) (by simp)
                  have hrow2 := unhide HH2
                  rcases hrow2 with ⟨_, _, h2⟩ | ⟨vb, off, cap', hv, _, _, hvb, h4⟩
                  · subst h2; simp at hlt
                  cases hv
                  clear hrow
                  have hq : ∀ W, Kept [] w W → W.cell? ⟨vb, off + k * 4, none⟩ = some (.int .i64 vs[k].kind) ∧ W.cell? ⟨vb, off + k * 4 + 1, none⟩ = some (.int .u64 (vs[k].n : Int)) ∧ W.cell? ⟨vb, off + k * 4 + 2, none⟩ = some (.int .i64 vs[k].i) ∧ W.cell? ⟨vb, off + k * 4 + 3, none⟩ = some (.slice vs[k].pa vs[k].p.length vs[k].pc) := by
                    intro W hW
                    obtain ⟨q0, q1, q2, q3⟩ := h4 k hlt
                    rw [← hW.cell (p := ⟨vb, off + k * 4, none⟩) hvb (by simp)] at q0
                    rw [← hW.cell (p := ⟨vb, off + k * 4 + 1, none⟩) hvb (by simp)] at q1
                    rw [← hW.cell (p := ⟨vb, off + k * 4 + 2, none⟩) hvb (by simp)] at q2
                    rw [← hW.cell (p := ⟨vb, off + k * 4 + 3, none⟩) hvb (by simp)] at q3
                    exact ⟨q0, q1, q2, q3⟩
                  have hmem := List.getElem_mem hlt
                  have hpk := unhide HP4 vs[k] hmem
                  have HT := hide (unhide HA2 vs[k] hmem)
                  have HC := hide (tlay_s (unhide HO).1 vs[k] (unhide HT).1 (((unhide HT).2.far (F := F) (fun x hx hf => by have := (unhide HO).2.2.2.1 x hf; have := (unhide HK4).size; omega)).keep (unhide HKw)) (by simp [failWS]) (by omega) (by simp [failWS]))
                  rw [tlay_fault _ c hc0] at HC
                  have HQ := hide hq
                  clear h4 hmem hq
                  generalize vs[k] = t at *
                  obtain ⟨q0, q1, q2, q3⟩ := unhide HQ _ (unhide HKw)
                  unfold Th.val at HC
                  go_wp2_with fail
                  refine (unhide HC).mono ?_
                  rintro e w7 ⟨rfl, hp⟩
                  have HB7 : Hid (Both w4 b (failWS c) rb (rF f) w7) := hide (by obtain ⟨o1, o2, o3, o4, o5, o6⟩ := unhide HO; exact Both.write o1 o2 o3 o4 o5 o6 hp)
                  clear hp HO HC HB HKw q0 q1 q2 q3
                  obtain ⟨F, G, o1, o2, o3, o4, o5, o6⟩ := unhide HB7
                  have HO := hide (And.intro o1 (And.intro o2 (And.intro o3 (And.intro o4 (And.intro o5 o6)))))
                  obtain ⟨q0, q1, q2, q3⟩ := unhide HQ _ ((unhide HK4).trans o3 (by simp))
                  clear o1 o2 o3 o4 o5 o6 HB7
                  generalize hKd : rnd t.kind 9 = K
                  have hK9 : K < 9 := by rw [← hKd]; exact rnd_lt _ _ (by omega)
                  have HK : Hid (rnd t.kind 9 = K) := hide hKd
                  obtain ⟨J, hJ⟩ : ∃ J : Int, (if K = 0 ∨ K = 3 then 0 else 3) = J := ⟨_, rfl⟩
                  have HJ := hide hJ
                  clear hKd hJ
                  go_wp2_with fail
                  refine (taken_fault (unhide HO).2.1 hf0 t.kind _ K (unhide HK) J (unhide HJ)).mono ?_
                  rintro e w8 ⟨ta, tc, rfl, hp⟩
                  have HB8 : Hid (Both w4 b (failWS c) rb (rF f) w8) := hide (by obtain ⟨o1, o2, o3, o4, o5, o6⟩ := unhide HO; exact Both.read o1 o2 o3 o4 o5 o6 hp)
                  clear hp HO q0 q1 q2 q3 HQ
                  have HKD : Hid (∀ w, Calls Try.prog 29 #[.agg #[.int .i64 (K : Nat), .int .u64 0, .int .i64 J, .slice ta 0 tc]] w fun e w' => e = .returned (.int .i64 (1 + K : Nat)) ∧ w' = w.alloc (.cells #[.int .i64 (K : Nat), .int .u64 0, .int .i64 J, .slice ta 0 tc] 35)) := by
                    refine hide fun w => ?_
                    have := kind_any ⟨(K : Nat), 0, J, ta, tc, []⟩ w
                    simp only [rnd_small K 9 hK9] at this
                    exact this
                  have HWD : Hid (∀ W, Kept [] w8 W → Calls Try.prog 16 #[.pointer (some ⟨b, 0, none⟩)] W fun e w' => e = .returned (.tuple #[.slice none 0 0, .int .i64 (c : Nat)]) ∧ ∃ m, w' = W.drewN m) := hide fun W hW => by
                    obtain ⟨F, G, o1, _⟩ := (unhide HB8).kept hW
                    exact wdone_faultS o1 hc0
                  have HWL : Hid (∀ W, Kept [] w8 W → Calls Try.prog 30 #[.pointer (some ⟨b, 0, none⟩)] W fun e w' => e = .returned (.int .i64 0) ∧ W = w') := hide fun W hW => by
                    obtain ⟨F, G, o1, _⟩ := (unhide HB8).kept hW
                    exact wlen_fault o1 hc0
                  have HRR : Hid (∀ W, Kept [] w8 W → Calls Try.prog 12 #[.pointer (some ⟨rb, 0, none⟩)] W fun e w' => e = .returned (.int .i64 0) ∧ W = w') := hide fun W hW => by
                    obtain ⟨F, G, _, o2, _⟩ := (unhide HB8).kept hW
                    have := rrest_s o2
                    rw [rRest, if_pos (by exact hf0)] at this
                    exact this
                  have HRD : Hid (∀ W, Kept [] w8 W → Calls Try.prog 14 #[.pointer (some ⟨rb, 0, none⟩)] W fun e w' => e = .returned (.int .i64 (f : Nat)) ∧ W = w') := hide fun W hW => by
                    obtain ⟨F, G, _, o2, _⟩ := (unhide HB8).kept hW
                    have := rdone_s o2
                    rw [rDone, if_pos (by exact hf0)] at this
                    exact this
                  have HFIN : Hid (∀ W, Kept [] w8 W → Hid (Both w4 b (failWS c) rb (rF f) W)) := hide fun W hW => hide ((unhide HB8).kept hW)
                  have HC8 := hide (And.intro hc (And.intro hf (And.intro hc0 hf0)))
                  clear HB8 hc hf hc0 hf0 HK
                  have hcc : ((c : Int) != (c : Int)) = false := by simp
                  have hff : ((f : Int) != (f : Int)) = false := by simp
                  rcases (by omega : K = 0 ∨ K = 3 ∨ (K ≠ 0 ∧ K ≠ 3)) with hK | hK | hK
                  · subst hK
                    have hJ0 : J = 0 := (unhide HJ).symm
                    clear HJ
                    subst hJ0
                    go_wp2_with (first
                      | (go_at_call 29; refine (unhide HKD _).mono ?_; rintro e w' ⟨rfl, rfl⟩)
                      | (go_at_call 16; refine (unhide HWD _ ?_).mono ?_; (repeat (first | exact Kept.refl _ _ | refine Kept.alloc ?_ _ | refine Kept.drewN ?_ _)); rintro e w' ⟨rfl, m3, rfl⟩)
                      | (go_at_call 30; refine (unhide HWL _ ?_).mono ?_; (repeat (first | exact Kept.refl _ _ | refine Kept.alloc ?_ _ | refine Kept.drewN ?_ _)); rintro e w' ⟨rfl, rfl⟩)
                      | (go_at_call 12; refine (unhide HRR _ ?_).mono ?_; (repeat (first | exact Kept.refl _ _ | refine Kept.alloc ?_ _ | refine Kept.drewN ?_ _)); rintro e w' ⟨rfl, rfl⟩)
                      | (go_at_call 14; refine (unhide HRD _ ?_).mono ?_; (repeat (first | exact Kept.refl _ _ | refine Kept.alloc ?_ _ | refine Kept.drewN ?_ _)); rintro e w' ⟨rfl, rfl⟩))
                    refine ⟨⟨k + 1, by omega, by go_num, unhide HFIN _ ?_⟩, by simp [intOf]; omega⟩
                    repeat (first | exact Kept.refl _ _ | refine Kept.alloc ?_ _ | refine Kept.drewN ?_ _)
                  · subst hK
                    have hJ0 : J = 0 := (unhide HJ).symm
                    clear HJ
                    subst hJ0
                    go_wp2_with (first
                      | (go_at_call 29; refine (unhide HKD _).mono ?_; rintro e w' ⟨rfl, rfl⟩)
                      | (go_at_call 16; refine (unhide HWD _ ?_).mono ?_; (repeat (first | exact Kept.refl _ _ | refine Kept.alloc ?_ _ | refine Kept.drewN ?_ _)); rintro e w' ⟨rfl, m3, rfl⟩)
                      | (go_at_call 30; refine (unhide HWL _ ?_).mono ?_; (repeat (first | exact Kept.refl _ _ | refine Kept.alloc ?_ _ | refine Kept.drewN ?_ _)); rintro e w' ⟨rfl, rfl⟩)
                      | (go_at_call 12; refine (unhide HRR _ ?_).mono ?_; (repeat (first | exact Kept.refl _ _ | refine Kept.alloc ?_ _ | refine Kept.drewN ?_ _)); rintro e w' ⟨rfl, rfl⟩)
                      | (go_at_call 14; refine (unhide HRD _ ?_).mono ?_; (repeat (first | exact Kept.refl _ _ | refine Kept.alloc ?_ _ | refine Kept.drewN ?_ _)); rintro e w' ⟨rfl, rfl⟩))
                    refine ⟨⟨k + 1, by omega, by go_num, unhide HFIN _ ?_⟩, by simp [intOf]; omega⟩
                    repeat (first | exact Kept.refl _ _ | refine Kept.alloc ?_ _ | refine Kept.drewN ?_ _)
                  · have b1 : ((1 + (K : Int)) == 1) = false := by rw [beq_eq_false_iff_ne]; omega
                    have b2 : ((1 + (K : Int)) == 4) = false := by rw [beq_eq_false_iff_ne]; omega
                    clear HJ hK
                    go_wp2_with (first
                      | (go_at_call 29; refine (unhide HKD _).mono ?_; rintro e w' ⟨rfl, rfl⟩)
                      | (go_at_call 16; refine (unhide HWD _ ?_).mono ?_; (repeat (first | exact Kept.refl _ _ | refine Kept.alloc ?_ _ | refine Kept.drewN ?_ _)); rintro e w' ⟨rfl, m3, rfl⟩)
                      | (go_at_call 30; refine (unhide HWL _ ?_).mono ?_; (repeat (first | exact Kept.refl _ _ | refine Kept.alloc ?_ _ | refine Kept.drewN ?_ _)); rintro e w' ⟨rfl, rfl⟩)
                      | (go_at_call 12; refine (unhide HRR _ ?_).mono ?_; (repeat (first | exact Kept.refl _ _ | refine Kept.alloc ?_ _ | refine Kept.drewN ?_ _)); rintro e w' ⟨rfl, rfl⟩)
                      | (go_at_call 14; refine (unhide HRD _ ?_).mono ?_; (repeat (first | exact Kept.refl _ _ | refine Kept.alloc ?_ _ | refine Kept.drewN ?_ _)); rintro e w' ⟨rfl, rfl⟩))
                    refine ⟨⟨k + 1, by omega, by go_num, unhide HFIN _ ?_⟩, by simp [intOf]; omega⟩
                    repeat (first | exact Kept.refl _ _ | refine Kept.alloc ?_ _ | refine Kept.drewN ?_ _)
                · have hk2 : k = vs.length := by omega
                  subst hk2
                  obtain ⟨F, G, o1, o2, _⟩ := unhide HB
                  have HWD := hide (wdone_faultS o1 hc0)
                  have HRD := hide (fun m => rdone_s (o2.kept ((Kept.refl [] wr).drewN m) (by simp)))
                  rw [rDone, if_pos (by exact hf0)] at HRD
                  have HC8 := hide (And.intro hc (And.intro hf (And.intro hc0 hf0)))
                  clear o1 o2 hc hf hc0 hf0 hlt hk
                  have hcc : ((c : Int) == (c : Int)) = true := by simp
                  have hff : ((f : Int) == (f : Int)) = true := by simp
                  have hF : failWS c = ⟨0, [], [], c⟩ := rfl
                  have hG : rF f = ⟨f, [], []⟩ := rfl
                  simp only [hF, hG] at HWD HRD
                  clear hF hG
                  go_wp2_with fail
                  refine (unhide HWD).mono ?_
                  rintro e w' ⟨rfl, m3, rfl⟩
                  go_wp2_with (first | (go_at_call 14; refine (unhide HRD _).mono ?_; rintro e w' ⟨rfl, rfl⟩))
                  go_ret
                  exact ⟨rfl, (unhide HKw).drewN m3⟩
end Go.Proofs.Ytiabhgkndejigab
