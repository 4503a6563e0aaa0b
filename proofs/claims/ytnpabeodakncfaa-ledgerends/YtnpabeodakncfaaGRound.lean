/- round: all that is to be said is said, and what was said is heard, one behind the other. -/
import Derived.Test.YtnpabeodakncfaaGHearW
namespace Go.Proofs.Ytnpabeodakncfaa
open Go.RowKit

/-- all that the world stands on is younger than w -/
def Ft (w : World) (b : Nat) (rv sv : Value) : Prop := w.heap.size ≤ b ∧ (∀ z, rv.ownBlock = some z → w.heap.size ≤ z) ∧ (∀ z, sv.ownBlock = some z → w.heap.size ≤ z)
theorem Ft.mem {w : World} {b : Nat} {rv sv : Value} (h : Ft w b rv sv) {x : Nat} (hx : x ∈ b :: (rv.ownBlock.toList ++ sv.ownBlock.toList)) : w.heap.size ≤ x := by
  rcases List.mem_cons.1 hx with q | q
  · rw [q]; exact h.1
  · rcases List.mem_append.1 q with q | q
    · exact h.2.1 x (by simpa using q)
    · exact h.2.2 x (by simpa using q)
theorem Ft.turn {w V : World} {b : Nat} {rv sv sv' : Value} (h : Ft w b rv sv) (hw : w.heap.size ≤ V.heap.size) (hv : sv'.ownBlock = sv.ownBlock ∨ ∃ z, sv'.ownBlock = some z ∧ V.heap.size ≤ z) : Ft w b rv sv' := by
  refine ⟨h.1, h.2.1, fun z hz => ?_⟩
  rcases hv with q | ⟨y, q1, q2⟩
  · rw [q] at hz; exact h.2.2 z hz
  · rw [q1] at hz; cases hz; omega
/-- what is said when the servers 0 .. k-1 say what they have to say -/
def nagL (row : List Ld) (sent : List Ml) : Nat → List Ml
  | 0 => sent
  | k + 1 => if nag (row.getD k ⟨0, 0, 0⟩) = 0 then nagL row sent k else nagL row sent k ++ [⟨nag (row.getD k ⟨0, 0, 0⟩), (row.getD k ⟨0, 0, 0⟩).ep, (k : Int), (row.getD k ⟨0, 0, 0⟩).pe⟩]
theorem nagL_len (row : List Ld) (sent : List Ml) : ∀ k, (nagL row sent k).length ≤ sent.length + k
  | 0 => by simp [nagL]
  | k + 1 => by
    have := nagL_len row sent k
    unfold nagL
    split
    · omega
    · simp; omega
/-- one message heard -/
def HearS (R R' : List Ld) (T T' : List Ml) (j : Nat) : Prop :=
  ∃ (kd ep fr : Int) (t : Nat) (Z Y : Int), T[j]? = some ⟨kd, ep, fr, (t : Int)⟩ ∧ t < R.length ∧ ans false (her (t : Int) (R.getD t ⟨0, 0, 0⟩) kd ep fr) = (Z, Y) ∧ R' = rowH R t Z ep fr ∧ T' = sentH T t Y ep fr
theorem rowH_len (row : List Ld) (t : Nat) (r ep fr : Int) : (rowH row t r ep fr).length = row.length := by
  unfold rowH; split
  · rfl
  · simp
set_option maxRecDepth 100000 in
set_option maxHeartbeats 4000000 in
theorem round_any {w0 w : World} {b : Nat} {rv sv : Value} {row : List Ld} {sent : List Ml} (hw : Wd w b rv sv row sent) (hkw : Kept [] w0 w) (hft : Ft w0 b rv sv) (h8 : row.length ≤ 8) (R : Nat → List Ld) (T : Nat → List Ml) (N : Nat) (hN : N ≤ 64) (hR : R 0 = row) (hT : T 0 = nagL row sent row.length)
    (hlen : ∀ s, s ≤ N → (T s).length ≤ 4398046511100) (hlt : ∀ s, s < N → sent.length + s < (T s).length) (hend : (T N).length = sent.length + N) (hst : ∀ s, s < N → HearS (R s) (R (s + 1)) (T s) (T (s + 1)) (sent.length + s)) (hsl : sent.length ≤ 4398046511080) :
    Calls Try.prog 23 #[.pointer (some ⟨b, 0, none⟩)] w fun e w' => e = .returned (.bool true) ∧ ∃ sv', Wd w' b rv sv' (R N) (T N) ∧ Kept [] w0 w' ∧ Ft w0 b rv sv' := by
  have HW := hide hw
  have HFT := hide hft
  have HKW := hide hkw
  have HST := hide hst
  have HEND := hide hend
  have HLT := hide hlt
  have HLEN := hide hlen
  have HR := hide hR
  have HT := hide hT
  obtain ⟨n, hn⟩ : ∃ n, row.length = n := ⟨_, rfl⟩
  have HN := hide hn
  rw [hn] at h8 HT
  obtain ⟨M, hM⟩ : ∃ M, sent.length = M := ⟨_, rfl⟩
  have HM := hide hM
  rw [hM] at HLT HEND HST hsl
  obtain ⟨ar, cr, hrv⟩ := own_len hw.ro
  obtain ⟨asv, csv, hsv⟩ := own_len hw.so
  rw [hn] at hrv
  rw [hM] at hsv
  subst hrv hsv
  have b0 : w.cell? ⟨b, 0, none⟩ = some (.slice ar n cr) := hw.blk.cell 0
  have b1 : w.cell? ⟨b, 1, none⟩ = some (.slice asv M csv) := hw.blk.cell 1
  have hbl := hw.blk.lt
  clear hw hft hkw hst hend hlt hlen hR hT hn hM
  go_enter Try.func23, Try.ntmps23
  go_wp2_with fail
  go_loopw [4] (fun i wr => ∃ (k : Nat) (sv' : Value), k ≤ n ∧ i = .int .i64 (k : Int) ∧ Wd wr b (.slice ar n cr) sv' row (nagL row sent k) ∧ Kept [] w0 wr ∧ Ft w0 b (.slice ar n cr) sv') (fun i _ => n - (intOf i).toNat)
  case atStart => exact ⟨0, _, by omega, rfl, unhide HW, unhide HKW, unhide HFT⟩
  case round =>
    obtain ⟨k, sv', hk, rfl, hwd, hkp, hft⟩ := hrel
    by_cases hlt : k < n
    · have hkr : k < row.length := by rw [unhide HN]; exact hlt
      have hle := nagL_len row sent k
      rw [unhide HM] at hle
      have HNG := hide (nagW_any hwd hkr (by omega))
      have c0 : wr.cell? ⟨b, 0, none⟩ = some (.slice ar n cr) := hwd.blk.cell 0
      have hbr := hwd.blk.lt
      have HFT2 := hide hft
      have HKP := hide hkp
      clear hwd hkp hft hkr hle b0 b1
      go_wp2_with (first
        | (go_at_call 53; refine (unhide HNG).mono ?_; rintro e w5 ⟨sv5, hwd5, he5, hk5, hv5⟩; have HWD5 := hide hwd5; have HK5 := hide hk5; have HV5 := hide hv5; clear hwd5 hk5 hv5; rcases he5 with rfl | rfl))
      all_goals
        refine ⟨⟨k + 1, sv5, by omega, by simp, unhide HWD5, ?_, (unhide HFT2).turn (unhide HKP).size (unhide HV5)⟩, by simp [intOf]; omega⟩
        refine (unhide HKP).trans (unhide HK5) (fun x hx => Or.inr ((unhide HFT2).mem ?_))
        rcases List.mem_cons.1 hx with q | q
        · exact List.mem_cons.2 (Or.inl q)
        · exact List.mem_cons.2 (Or.inr (List.mem_append_right _ q))
    · obtain rfl : k = n := by omega
      have c0 : wr.cell? ⟨b, 0, none⟩ = some (.slice ar k cr) := hwd.blk.cell 0
      have hbr := hwd.blk.lt
      have HT0 : Hid (nagL row sent k = T 0) := (unhide HT).symm
      rw [unhide HT0, ← unhide HR] at hwd
      have HWD := hide hwd
      have HFT2 := hide hft
      have HKP := hide hkp
      clear hwd hkp hft b0 b1
      go_wp2_with fail
      go_loopw [5] (fun i wr => ∃ (s : Nat) (sv' : Value), s ≤ N ∧ i = .int .i64 ((M + s : Nat) : Int) ∧ Wd wr b (.slice ar k cr) sv' (R s) (T s) ∧ Kept [] w0 wr ∧ Ft w0 b (.slice ar k cr) sv' ∧ (R s).length = k) (fun i _ => M + N - (intOf i).toNat)
      case atStart => exact ⟨0, _, by omega, rfl, unhide HWD, unhide HKP, unhide HFT2, by rw [unhide HR]; exact unhide HN⟩
      case round =>
        obtain ⟨s, sv', hs, rfl, hwd, hkp, hft, hrl⟩ := hrel
        obtain ⟨as2, cs2, hsv⟩ := own_len hwd.so
        subst hsv
        have c1 : wr.cell? ⟨b, 1, none⟩ = some (.slice as2 (T s).length cs2) := hwd.blk.cell 1
        have hbr2 := hwd.blk.lt
        by_cases hlt2 : s < N
        · obtain ⟨kd, ep, fr, t, Z, Y, hmt, htl, hans, hR1, hT1⟩ := unhide HST s hlt2
          have hlm := unhide HLT s hlt2
          have hll := unhide HLEN s hs
          obtain ⟨g, cap, hv, -, hgl, hrg⟩ := own_at (ce := mc) (fun _ => rfl) hwd.so hmt
          cases hv
          have m0 : wr.cell? ⟨g, (M + s) * 4, none⟩ = some (.int .i64 kd) := hrg 0 _ rfl
          have m1 : wr.cell? ⟨g, (M + s) * 4 + 1, none⟩ = some (.int .i64 ep) := hrg 1 _ rfl
          have m2 : wr.cell? ⟨g, (M + s) * 4 + 2, none⟩ = some (.int .i64 fr) := hrg 2 _ rfl
          have m3 : wr.cell? ⟨g, (M + s) * 4 + 3, none⟩ = some (.int .i64 (t : Int)) := hrg 3 _ rfl
          have HHE := hide (hearW_any hwd kd ep fr htl false (by omega) hans)
          rw [← hR1, ← hT1] at HHE
          obtain ⟨L, hL⟩ : ∃ L, (T s).length = L := ⟨_, rfl⟩
          rw [hL] at c1 hlm HHE hll
          obtain ⟨q, hq⟩ : ∃ q, M + s = q := ⟨_, rfl⟩
          have HQ := hide hq
          rw [hq] at m0 m1 m2 m3 hlm ⊢
          have hqL : (q : Int) < (L : Int) := by omega
          have hq64 : ((M : Int) + 64 < (q : Int)) = False := by simp; omega
          have hMw : IntKind.i64.wrap ((M : Int) + 64) = (M : Int) + 64 := by rw [IntKind.wrap_i64]; omega
          have HFT3 := hide hft
          have HKP3 := hide hkp
          have HRL : Hid ((R (s + 1)).length = k) := by rw [hR1, rowH_len]; exact hrl
          rw [hL] at HFT3
          clear hwd hkp hft hrg hans hR1 hT1 hmt htl hrl hL hq c0 hgl
          go_wp2_with (first
            | (go_at_call 54; refine (unhide HHE).mono ?_; rintro e w5 ⟨rfl, sv5, hwd5, hk5, hv5⟩; have HWD5 := hide hwd5; have HK5 := hide hk5; have HV5 := hide hv5; clear hwd5 hk5 hv5))
          refine ⟨⟨s + 1, sv5, by omega, by have := unhide HQ; simp; omega, unhide HWD5, (unhide HKP3).trans (unhide HK5) (fun x hx => Or.inr ((unhide HFT3).mem hx)), (unhide HFT3).turn (unhide HKP3).size (unhide HV5), unhide HRL⟩, by have := unhide HQ; simp [intOf]; omega⟩
        · obtain rfl : s = N := by omega
          have hL := unhide HEND
          rw [hL] at c1
          have HWD6 := hide hwd
          have HFT3 := hide hft
          have HKP3 := hide hkp
          clear hwd hkp hft c0
          go_wp2_with fail
          go_ret
          exact ⟨rfl, _, unhide HWD6, unhide HKP3, unhide HFT3⟩
end Go.Proofs.Ytnpabeodakncfaa
