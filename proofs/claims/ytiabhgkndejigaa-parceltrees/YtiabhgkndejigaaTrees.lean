/- ParcelTrees: the walk. -/
import Derived.Test.YtiabhgkndejigaaAwake
namespace Go.Proofs.Ytiabhgkndejigaa
open Go.RowKit

theorem sumT_take (ts : List Th) (k : Nat) (h : k < ts.length) : sumT (ts.take (k + 1)) = sumT (ts.take k) + ts[k].p.length + 10 := by
  rw [List.take_succ_eq_append_getElem h, sumT_append]; simp [sumT]; omega
theorem sumT_take_le (ts : List Th) (k : Nat) : sumT (ts.take k) ≤ sumT ts := by
  have : sumT ts = sumT (ts.take k) + sumT (ts.drop k) := by rw [← sumT_append, List.take_append_drop]
  omega
theorem sum1_len (ts : List Th) : ts.length ≤ sum1 ts ∧ sumT ts ≤ 10 * sum1 ts ∧ ∀ t ∈ ts, t.p.length ≤ sum1 ts := by
  induction ts with
  | nil => simp [sum1, sumT]
  | cons t ts ih =>
    have e : sum1 (t :: ts) = 1 + t.p.length + sum1 ts := by simp [sum1]
    rw [e, sumT_cons]
    obtain ⟨h1, h2, h3⟩ := ih
    refine ⟨by simp; omega, by omega, fun u hu => ?_⟩
    rcases List.mem_cons.1 hu with rfl | hu
    · omega
    · have := h3 u hu; omega

def Byt (l : List Nat) (bh : List (List Nat)) : Prop := (∀ x ∈ l, x < 256) ∧ ∀ r ∈ bh, ∀ x ∈ r, x < 256
theorem RStep.byt {t : Th} {l l' : List Nat} {bh bh' : List (List Nat)} (h : RStep t l bh l' bh') (hb : Byt l bh) : Byt l' bh' := by
  rcases h with ⟨_, rfl, rfl⟩ | ⟨_, _, rest, rfl, rfl⟩ | ⟨_, rfl, rfl⟩
  · exact ⟨fun x hx => hb.1 x (by simp [hx]), hb.2⟩
  · refine ⟨fun x hx => hb.1 x (by simp [hx]), fun r hr x hx => ?_⟩
    simp at hr
    rcases hr with hr | rfl
    · exact hb.2 r hr x hx
    · exact hb.1 x (by simp [hx])
  · exact ⟨fun x hx => hb.2 l' (by simp) x hx, fun r hr x hx => hb.2 r (by simp [hr]) x hx⟩

theorem shutT_ok : shutT.ok := ⟨by decide, by decide, by decide, by decide, by decide, by intro x hx; cases hx⟩
theorem AllT.shut {w : World} {ts : List Th} (h : AllT w ts) : AllT w (shut 0 ts) := by
  intro t ht
  rcases shut_mem ts 0 t ht with h' | rfl
  · exact h t h'
  · exact ⟨shutT_ok, Or.inl (Or.inl ⟨rfl, rfl⟩)⟩

set_option maxRecDepth 100000 in
set_option maxHeartbeats 1000000 in
theorem trees_walk {w : World} {v : Value} {ts : List Th} (h : RowT w v ts) (ha : AllT w ts) (hp : ∀ t ∈ ts, t.p.length ≤ 4611686018427387904) :
    Calls Try.prog 8 #[v] w fun e w' => e = .returned (.bool true) ∧ Kept [] w w' := by
  have HL := hide (long_any h hp)
  have HH := hide h
  have HA := hide ha
  obtain ⟨a, cap, rfl⟩ := h.len
  clear h ha hp
  go_enter Try.func8, Try.ntmps8
  go_wp2_with fail
  refine (unhide HL).mono ?_
  rintro e w1 ⟨c, rfl, hc, m, rfl⟩
  clear HL
  cases c with
  | true =>
    go_wp2
    go_ret
    exact ⟨rfl, (Kept.refl _ _).drewN m⟩
  | false =>
    have hsum := hc rfl
    obtain ⟨h1, h2, h3⟩ := sum1_len ts
    have hlen : ts.length ≤ 1073741824 := by omega
    have hT : sumT ts ≤ 10737418240 := by omega
    have HP3 : Hid (∀ t ∈ ts, t.p.length ≤ 1073741824) := hide fun t ht => by have := h3 t ht; omega
    clear hc h1 h2 h3 hsum
    go_wp2_with fail
    refine (awake_any _).mono ?_
    rintro e w2 ⟨rfl, hk2⟩
    have HK2 := hide (((Kept.refl [] w).drewN m).trans hk2 (by simp))
    clear hk2
    go_wp2_with fail
    refine (closed_any ((unhide HH).kept (unhide HK2) (by simp)) (by omega)).mono ?_
    rintro e w3 ⟨ca, cc, rfl, ho3, hk3⟩
    have HR3 := hide (rowT_of_own ho3)
    have HK3 := hide ((unhide HK2).trans hk3 (by simp))
    have HA3 := hide ((unhide HA).shut.kept (unhide HK3))
    have hsh := shut_sum ts 0 (by omega)
    have HM := hide (shut_mem ts 0)
    obtain ⟨bs, hbal⟩ := shut_bal ts
    have HB := hide hbal
    clear ho3 hk3 hbal
    have HPU : Hid (∀ t ∈ shut 0 ts, t.p.length ≤ 1073741824) := hide fun t ht => by
      rcases unhide HM t ht with h | rfl
      · exact unhide HP3 t h
      · simp [shutT]
    have hus : sumT (shut 0 ts) ≤ 21474836480 := by omega
    have hul : (shut 0 ts).length ≤ 21474836480 := by
      have : ∀ us : List Th, us.length ≤ sumT us := by
        intro us
        induction us with
        | nil => simp
        | cons u us ih => rw [sumT_cons]; simp; omega
      have := this (shut 0 ts); omega
    have hokU : Hid (∀ t ∈ shut 0 ts, t.ok) := hide fun t ht => ((unhide HA3) t ht).1
    have hbl := (unhide HB).len (unhide hokU) (by omega)
    clear hsh HM HP3 hT hlen HH HA HK2
    generalize shut 0 ts = us at *
    go_wp2
    go_loopw [4, 5] (fun rv i wr => ∃ k m : Nat, k ≤ us.length ∧ i = .int .i64 k ∧ rv = .int .i64 (sumT (us.take k) : Nat) ∧ wr = w3.drewN m) (fun _ i _ => us.length - (intOf i).toNat)
    case atStart => exact ⟨0, 0, by omega, rfl, by simp [sumT], rfl⟩
    case round =>
      obtain ⟨k, m, hk, rfl, rfl, rfl⟩ := hrel
      by_cases hlt : k < us.length
      · have hrow := unhide HR3
        rcases hrow with ⟨_, _, h2⟩ | ⟨vb, off, cap', hv, _, _, _, h4⟩
        · subst h2; simp at hlt
        cases hv
        obtain ⟨q0, q1, q2, q3⟩ := h4 k hlt
        have hpk := unhide HPU us[k] (List.getElem_mem hlt)
        have HS := hide (sumT_take us k hlt)
        have hle := sumT_take_le us k
        generalize us[k] = t at *
        generalize sumT (us.take k) = S at *
        clear h4
        go_wp2
        go_roundw
        case rel => exact ⟨k + 1, m, by omega, by go_num, by rw [unhide HS]; go_num, rfl⟩
        case measure => simp [intOf]; omega
      · have hk2 : k = us.length := by omega
        subst hk2
        rw [List.take_length]
        clear hlt hk
        have hk0 : Kept [] w3 (w3.drewN m) := (Kept.refl _ _).drewN m
        have HR4 := hide ((unhide HR3).kept hk0 (by simp))
        have HK4 := hide ((unhide HK3).trans hk0 (by simp))
        have HA4 := hide ((unhide HA3).kept hk0)
        clear hk0 HR3 HK3 HA3
        generalize w3.drewN m = w4 at *
        have HRUN : Hid (∀ room, bs.length ≤ room → runW (newWS room) us = ⟨room, bs, [], 0⟩) := hide fun room hr => by
          have := ((unhide HB).run room [] [] (by simp) (by simp)).1 (by simpa using hr)
          simpa [newWS] using this
        have HRUNF : Hid (∀ room, room < bs.length → runW (newWS room) us = failWS 13) := hide fun room hr => by
          have := ((unhide HB).run room [] [] (by simp) (by simp)).2 (by simpa using hr)
          simpa [newWS] using this
        have HWR : Hid (∀ (W : World) (room : Nat) (ri : Int), Kept [] w4 W → (ri = (room : Int) ∨ (ri = -1 ∧ room = 0)) → room ≤ 1000000000000 → bs.length ≤ room → Calls Try.prog 36 #[.slice ca us.length cc, .int .i64 ri] W fun e w' => ∃ a cap, e = .returned (.tuple #[.slice a bs.length cap, .int .i64 0]) ∧ Hid (Sees w' (.slice a bs.length cap) bs) ∧ Hid (Kept [] W w')) := hide fun W room ri hW hri hr hb => by
          have hrun := unhide HRUN room hb
          refine (written_any ((unhide HR4).kept hW (by simp)) ((unhide HA4).kept hW) (fun t ht => by have := unhide HPU t ht; omega) room ri hri hr (fun _ => by rw [hrun])).mono ?_
          rintro e w' ⟨g1, _, g3⟩
          rw [hrun] at g1
          obtain ⟨a, cap, rfl, ho⟩ := g1 rfl rfl
          exact ⟨a, cap, rfl, hide (Sees.of_own ho), hide g3⟩
        have HWF : Hid (∀ (W : World) (room : Nat) (ri : Int), Kept [] w4 W → ri = (room : Int) → room ≤ 1000000000000 → room < bs.length → Calls Try.prog 36 #[.slice ca us.length cc, .int .i64 ri] W fun e w' => e = .returned (.tuple #[.slice none 0 0, .int .i64 13]) ∧ Hid (Kept [] W w')) := hide fun W room ri hW hri hr hb => by
          have hrun := unhide HRUNF room hb
          refine (written_any ((unhide HR4).kept hW (by simp)) ((unhide HA4).kept hW) (fun t ht => by have := unhide HPU t ht; omega) room ri (Or.inl hri) hr (fun h => by rw [hrun] at h; simp [failWS] at h)).mono ?_
          rintro e w' ⟨_, g2, g3⟩
          rw [hrun] at g2
          have := g2 (by simp [failWS])
          subst this
          exact ⟨rfl, hide g3⟩
        have HWAY := hide ((unhide HB).way [] [] (by simp))
        have HBYT : Hid (Byt bs []) := hide ⟨(unhide HB).lt (unhide hokU), by simp⟩
        clear HRUN HRUNF hokU HB
        generalize sumT us = R at *
        go_wp2_with fail
        refine (unhide HWR _ R _ (Kept.refl _ _) (Or.inl rfl) (by omega) hbl).mono ?_
        rintro e w5 ⟨ba, bc, rfl, HS5, HK5⟩
        go_wp2_with fail
        refine (read_any (unhide HS5) (by omega)).mono ?_
        rintro e w6 ⟨rb, lv6, rfl, hr6, hb6, hl6, hk6⟩
        have HO6 := hide (ROwn.new (w := w5) hb6 hr6 hl6 hk6)
        clear hr6 hb6 hl6 hk6
        go_wp2
        go_loopw [9] (fun i wr => ∃ (k : Nat) (l : List Nat) (bh : List (List Nat)), k ≤ us.length ∧ i = .int .i64 k ∧ Hid (RWay (us.drop k) l bh [] [] ∧ Byt l bh ∧ ROwn w5 rb l bh wr)) (fun i _ => us.length - (intOf i).toNat)
        case atStart => exact ⟨0, bs, [], by omega, rfl, hide ⟨by simpa using unhide HWAY, unhide HBYT, unhide HO6⟩⟩
        case round =>
          clear HO6 HWAY HBYT
          obtain ⟨k, l, bh, hk, rfl, HI⟩ := hrel
          obtain ⟨lv, bv, hs, D, hO⟩ := (unhide HI).2.2
          have HO := hide hO
          clear hO
          have HKr := hide ((unhide HK5).trans (unhide HO).2.1 (by simp))
          by_cases hlt : k < us.length
          · have hrow := (unhide HR4).kept (unhide HKr) (by simp)
            rcases hrow with ⟨_, _, h2⟩ | ⟨vb, off, cap', hv, _, _, _, h4⟩
            · subst h2; simp at hlt
            cases hv
            obtain ⟨q0, q1, q2, q3⟩ := h4 k hlt
            have hmem := List.getElem_mem hlt
            have hpk := unhide HPU us[k] hmem
            have HT := hide (unhide HA4 us[k] hmem)
            have hd : us.drop k = us[k] :: us.drop (k + 1) := (List.getElem_cons_drop hlt).symm
            have hway := (unhide HI).1
            rw [hd] at hway
            generalize us[k] = t at *
            cases hway with
            | @cons _ _ _ l1 _ _ bh1 _ hst hrest =>
            have HST := hide hst
            have HRE := hide hrest
            clear hst hrest hd h4
            have hrb4 : w5.heap.size ≤ rb := (unhide HO).2.2 rb (by simp [rfoot])
            have HC := hide (tback_any t (unhide HT).1 (unhide HO).1 (unhide HI).2.1.1 (((unhide HT).2.far (F := [rb]) (fun x hx hf => by have := (unhide HK5).size; simp at hf; omega)).keep (unhide HKr)) (by omega) (unhide HST))
            unfold Th.val at HC
            go_wp2_with (first | (go_at_call 37; refine (unhide HC).mono ?_; rintro e w7 ⟨rfl, HP7⟩))
            go_roundw
            case rel => exact ⟨k + 1, l1, bh1, by omega, by go_num, hide ⟨unhide HRE, (unhide HST).byt (unhide HI).2.1, ROwn.go (unhide HO) HP7⟩⟩
            case measure => simp [intOf]; omega
          · have hk2 : k = us.length := by omega
            subst hk2
            have hway := (unhide HI).1
            rw [List.drop_length] at hway
            obtain ⟨rfl, rfl⟩ : l = [] ∧ bh = [] := by cases hway; exact ⟨rfl, rfl⟩
            clear hway hlt hk HI
            have HS7 := hide ((unhide HS5).kept (unhide HO).2.1 (by simp))
            go_wp2_with (first | (go_at_call 20; refine (rdone_f (unhide HO).1 0 (by simp)).mono ?_; rintro e w' ⟨rfl, rfl⟩) | (go_at_call 24; refine (rest_ok (unhide HO).1.rd).mono ?_; rintro e w' ⟨rfl, rfl⟩))
            have hbn : bs.length ≤ 21474836480 := by omega
            by_cases hb0 : bs.length = 0
            · refine (unhide HWR wr 0 _ (unhide HKr) (Or.inr ⟨by omega, rfl⟩) (by omega) (by omega)).mono ?_
              rintro e w8 ⟨xa, xc, rfl, HS8, HK8⟩
              rw [hb0]
              have HC9 := hide (unhide HWR w8 0 0 ((unhide HKr).trans (unhide HK8) (by simp)) (Or.inl rfl) (by omega) (by omega))
              rw [hb0] at HC9
              have HS7' := hide ((unhide HS7).kept (unhide HK8) (by simp))
              rw [hb0] at HS7'
              go_wp2_with (first | (go_at_call 36; refine (unhide HC9).mono ?_; rintro e w9 ⟨da, dc, rfl, HS9, HK9⟩) | (go_at_call 22; refine (same_yes (unhide HS9) ((unhide HS7').kept (unhide HK9) (by simp)) (by omega)).mono ?_; rintro e w10 ⟨rfl, m3, rfl⟩))
              go_ret
              exact ⟨rfl, (((unhide HK4).trans ((unhide HKr).trans (unhide HK8) (by simp)) (by simp)).trans (unhide HK9) (by simp)).drewN m3⟩
            · have hbe : ((bs.length : Int) == 0) = false := by rw [beq_eq_false_iff_ne]; omega
              refine (unhide HWF wr (bs.length - 1) _ (unhide HKr) (by omega) (by omega) (by omega)).mono ?_
              rintro e w8 ⟨rfl, HK8⟩
              have HC9 := hide (unhide HWR w8 bs.length bs.length ((unhide HKr).trans (unhide HK8) (by simp)) (Or.inl rfl) (by omega) (by omega))
              have HS7' := hide ((unhide HS7).kept (unhide HK8) (by simp))
              go_wp2_with (first | (go_at_call 36; refine (unhide HC9).mono ?_; rintro e w9 ⟨da, dc, rfl, HS9, HK9⟩) | (go_at_call 22; refine (same_yes (unhide HS9) ((unhide HS7').kept (unhide HK9) (by simp)) (by omega)).mono ?_; rintro e w10 ⟨rfl, m3, rfl⟩))
              go_ret
              exact ⟨rfl, (((unhide HK4).trans ((unhide HKr).trans (unhide HK8) (by simp)) (by simp)).trans (unhide HK9) (by simp)).drewN m3⟩
end Go.Proofs.Ytiabhgkndejigaa
