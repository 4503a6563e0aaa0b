/- made. -/
import Derived.Test.YthhgeobfolhpoaaVLaw
namespace Go.Proofs.Ythhgeobfolhpoaa
open Go.RowKit

/-- a script that came in -/
def Ops (w : World) (v : Value) (os : List OpM) : Prop :=
  ∃ a cap, v = .slice a os.length cap ∧ os.length ≤ 9223372036854775807 ∧ ∀ k o, os[k]? = some o → o.wt < 18446744073709551616 ∧ ∃ b off, a = some ⟨b, off, none⟩ ∧ b < w.heap.size ∧ w.rangeAt b (off + k * 5) (oc o)
theorem range_kept {F : List Nat} {w w' : World} {b o : Nat} {l : List Value} (h : w.rangeAt b o l) (hk : Kept F w w') (hb : b < w.heap.size) (hn : b ∉ F) : w'.rangeAt b o l :=
  fun j v hv => (hk.cell (p := ⟨b, o + j, none⟩) hb hn).trans (h j v hv)
theorem Ops.kept {w w' : World} {v : Value} {os : List OpM} (h : Ops w v os) (hk : Kept [] w w') : Ops w' v os := by
  obtain ⟨a, cap, rfl, h1, h2⟩ := h
  refine ⟨a, cap, rfl, h1, fun k o ho => ?_⟩
  obtain ⟨h3, b, off, rfl, h4, h5⟩ := h2 k o ho
  exact ⟨h3, b, off, rfl, Nat.lt_of_lt_of_le h4 hk.size, range_kept h5 hk h4 (by simp)⟩
theorem sizeOp : (Try.prog.info? 36).map (·.size) = some 5 := by kernel_rfl
theorem run_take {m : Mt} {os : List OpM} {k : Nat} {o : OpM} (h : os[k]? = some o) : runO m (os.take (k + 1)) = o.on (runO m (os.take k)) := by
  rw [List.take_add_one, h, runO_app]; rfl
set_option maxRecDepth 100000 in
set_option maxHeartbeats 1000000 in
theorem made_yes {w : World} {v : Value} {os : List OpM} (hv : Ops w v os) {s h : Int} (hx : fits s h) : Calls Try.prog 15 #[.int .i64 s, .int .i64 h, v] w fun e w' => ∃ b g, e = .returned (.tuple #[.pointer (some ⟨b, 0, none⟩), .int .i64 ((runO (Mt.new s.toNat h.toNat) os).clock : Int)]) ∧ Mp w' b g (runO (Mt.new s.toNat h.toNat) os) ∧ Kept [] w w' ∧ w.heap.size ≤ b ∧ w.heap.size ≤ g := by
  have HV := hide hv
  obtain ⟨pa, pcap, rfl, hlen, -⟩ := hv
  have HNW := hide (new_yesI w hx)
  have HNM := fun x W => hide (num_any W x)
  have HC00 : Hid ((Mt.new s.toNat h.toNat).clock = 0) := rfl
  generalize hm0 : Mt.new s.toNat h.toNat = m0 at *
  obtain ⟨n, hn⟩ : ∃ n, os.length = n := ⟨_, rfl⟩
  rw [hn] at hlen HV ⊢
  have HN := hide hn
  clear hn hx hm0
  go_enter Try.func15, Try.ntmps15
  go_wp2_with (first
    | (go_at_call 9; refine (unhide HNW).mono ?_; rintro e w1 ⟨b, g, rfl, hm1, hk1, hb1, hg1⟩; have HM1 := hide hm1; have HK1 := hide hk1; have HB := hide hb1; have HG := hide hg1; clear HNW hm1 hk1 hb1 hg1)
    | (go_at_call 11; refine (unhide (HNM _ _)).mono ?_; rintro e w1 ⟨rfl, hq⟩; have hq' := hq.symm; subst hq'))
  have HM0 : Hid (Mp w1 b g (runO m0 (os.take 0))) := by rw [List.take_zero]; exact unhide HM1
  have HC0 : Hid (((runO m0 (os.take 0)).clock : Int) = 0) := by
    unfold Hid; rw [List.take_zero]; show ((m0.clock : Nat) : Int) = 0; rw [unhide HC00]; rfl
  clear HM1 HNM HC00
  go_loopw [10, 11] (fun c i wr => ∃ k : Nat, k ≤ n ∧ i = .int .i64 (k : Int) ∧ c = .int .i64 ((runO m0 (os.take k)).clock : Int) ∧ Mp wr b g (runO m0 (os.take k)) ∧ Kept [] w wr) (fun _ i _ => n - (intOf i).toNat)
  case atStart => exact ⟨0, by omega, rfl, by rw [unhide HC0], unhide HM0, unhide HK1⟩
  case round =>
    obtain ⟨k, hk, rfl, rfl, hm, hkp⟩ := hrel
    by_cases hlt : k < n
    · have hkn : k < os.length := by rw [unhide HN]; exact hlt
      obtain ⟨o, ho⟩ : ∃ o, os[k]? = some o := ⟨os[k], List.getElem?_eq_getElem hkn⟩
      obtain ⟨pa', pc', hv', -, hall⟩ := (unhide HV).kept hkp
      have hpa : pa = pa' := by cases hv'; rfl
      subst hpa
      obtain ⟨hw64, ob, off, hpa, hbl, hrg⟩ := hall k o ho
      subst hpa
      have HR := hide hrg
      have HE := hide (run_take (m := m0) ho)
      have HST := hide (set_any hm o hw64)
      have HYC := hide (fun (hy : o.yes (runO m0 (os.take k)) = true) => OpM.yes_clock hy)
      have HNC := hide (fun (hy : o.yes (runO m0 (os.take k)) = false) => OpM.no_same hy)
      have HKP := hide hkp
      have d3 : wr.cell? ⟨ob, off + k * 5 + 3, none⟩ = some (.int .i64 o.now) := hrg 3 _ rfl
      have hbg : w.heap.size ≤ b ∧ w.heap.size ≤ g := ⟨unhide HB, unhide HG⟩
      have HBG := hide hbg
      have hob : ob < w.heap.size := by
        obtain ⟨pa'', pc'', hv'', -, hall'⟩ := unhide HV
        obtain ⟨-, ob', off', e', hl', -⟩ := hall' k o ho
        cases hv''
        cases e'
        exact hl'
      have HOB := hide (fun W2 (hk : Kept [b, g] wr W2) => (hk.cell (p := ⟨ob, off + k * 5 + 3, none⟩) hbl (by simp; omega)).trans d3)
      clear hm hkp hall hrg hv' hkn hbg hob hbl HB HG d3
      generalize runO m0 (os.take k) = mk at *
      cases hy : o.yes mk with
      | true =>
        rw [hy] at HST
        have HYE := hide (unhide HYC hy)
        clear HYC HNC hy
        go_wp2_with (first
          | (guard_target =~ wpList _ _ _ _ _ _; refine wpList_load_mid rfl 36 _ rfl ob (off + k * 5) rfl (oc o) _ (unhide HR) Try.underlying36 rfl sizeOp ?_)
          | (go_at_call 25; refine (unhide HST).mono ?_; rintro e w2 ⟨rfl, hm2, hk2⟩; have d3x := unhide HOB _ hk2; have HM2 := hide hm2; have HK2 := hide hk2; clear HST hm2 hk2))
        refine ⟨⟨k + 1, by omega, by simp, by rw [unhide HE, unhide HYE], by rw [unhide HE]; exact unhide HM2, (unhide HKP).trans ((unhide HK2).mono (G := [b, g]) (fun x hx => Or.inl hx)) (fun x hx => ?_)⟩, by simp [intOf]; omega⟩
        have := unhide HBG
        simp at hx
        rcases hx with rfl | rfl
        · exact Or.inr this.1
        · exact Or.inr this.2
      | false =>
        rw [hy] at HST
        have HNE := hide (unhide HNC hy)
        clear HYC HNC hy
        go_wp2_with (first
          | (guard_target =~ wpList _ _ _ _ _ _; refine wpList_load_mid rfl 36 _ rfl ob (off + k * 5) rfl (oc o) _ (unhide HR) Try.underlying36 rfl sizeOp ?_)
          | (go_at_call 25; refine (unhide HST).mono ?_; rintro e w2 ⟨rfl, hm2, hk2⟩; have HM2 := hide hm2; have HK2 := hide hk2; clear HST hm2 hk2))
        refine ⟨⟨k + 1, by omega, by simp, by rw [unhide HE, unhide HNE], by rw [unhide HE]; exact unhide HM2, (unhide HKP).trans ((unhide HK2).mono (G := [b, g]) (fun x hx => Or.inl hx)) (fun x hx => ?_)⟩, by simp [intOf]; omega⟩
        have := unhide HBG
        simp at hx
        rcases hx with rfl | rfl
        · exact Or.inr this.1
        · exact Or.inr this.2
    · obtain rfl : k = n := by omega
      have HKP := hide hkp
      have HMM : Hid (Mp wr b g (runO m0 os)) := by
        have := hm
        rw [← unhide HN, List.take_length] at this
        exact this
      have hcl : (runO m0 (os.take k)).clock = (runO m0 os).clock := by rw [← unhide HN, List.take_length]
      rw [hcl]
      clear hm hkp hcl
      go_wp2_with fail
      go_ret2
      exact ⟨b, g, rfl, unhide HMM, unhide HKP, unhide HB, unhide HG⟩
set_option maxRecDepth 100000 in
theorem made_no {w : World} (v : Value) {s h : Int} (hx : ¬ fits s h) : Calls Try.prog 15 #[.int .i64 s, .int .i64 h, v] w fun e w' => e = .returned (.tuple #[.pointer none, .int .i64 0]) ∧ w' = w := by
  have HNW := hide (new_no w hx)
  have HNM := fun x W => hide (num_any W x)
  clear hx
  go_enter Try.func15, Try.ntmps15
  go_wp2_with (first
    | (go_at_call 9; refine (unhide HNW).mono ?_; rintro e w1 ⟨rfl, hq⟩; have hq' := hq.symm; subst hq'; clear HNW)
    | (go_at_call 11; refine (unhide (HNM _ _)).mono ?_; rintro e w1 ⟨rfl, hq⟩; have hq' := hq.symm; subst hq'))
  go_ret2
  exact ⟨rfl, rfl⟩
end Go.Proofs.Ythhgeobfolhpoaa
