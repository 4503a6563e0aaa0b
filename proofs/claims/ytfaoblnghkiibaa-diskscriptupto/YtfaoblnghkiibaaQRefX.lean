/- The document's disk: Crash. -/
import Derived.Test.YtfaoblnghkiibaaQRefR
import Derived.Test.YtfaoblnghkiibaaQCrash
namespace Go.Proofs.Ytfaoblnghkiibaa
open Go.RowKit

set_option maxRecDepth 100000 in
theorem rncrash (w : World) (v : Value) (torn cut : Int) : Calls Try.prog 46 #[.pointer none, v, .int .i64 torn, .int .i64 cut] w fun e w' => e = .returned (.tuple #[]) ∧ w' = w := by
  go_enter Try.func46, Try.ntmps46
  go_wp2
  refine bodyPost_ret (results_none rfl _ _ _) rfl ?_
  exact ⟨rfl, rfl⟩

set_option maxRecDepth 100000 in
set_option maxHeartbeats 2000000 in
theorem rcrash_any {w : World} {m : Nat} {G : List Nat} {d : Dm} (h : Rk w m G d) (hpl : d.pend.length ≤ 9223372036854775807) {v : Value} {keep : List Bool} (hv : SeesB w v keep) (hvG : keep = [] ∨ ∀ k, v.ownBlock = some k → k ∉ G) (torn cut : Int) :
    Calls Try.prog 46 #[.pointer (some ⟨m, 0, none⟩), v, .int .i64 torn, .int .i64 cut] w fun e w' => e = .returned (.tuple #[]) ∧ Rk w' m G (d.crash keep torn cut) ∧ Nx G w G w' := by
  obtain ⟨sb, sc, pa, pc, vs, h, hm, hs, hp, hvv, hlt⟩ := h
  have HFF : Hid (m ∈ G ∧ sb ∈ G ∧ ∀ x ∈ G, x < w.heap.size) := ⟨hm, hs, hlt⟩
  have HV := hide hv
  have HVG : Hid (keep = [] ∨ ∀ k, v.ownBlock = some k → k ∉ [sb]) := by
    rcases hvG with h0 | h0
    · exact Or.inl h0
    · exact Or.inr fun k hk => by simp; intro e; subst e; exact h0 k hk hs
  obtain ⟨va, vc, rfl, hkl, -⟩ := hv
  obtain ⟨-, c1, c2, -, -⟩ := rp_cells h
  have H := hide h
  clear h hm hs hp hvv hlt hvG
  generalize hL : d.pend.length = L at *
  have HL := hide hL
  clear hL
  generalize hM : keep.length = M at *
  have HM := hide hM
  clear hM
  have hcc : ∃ CV : Int, ((cutN cut : Nat) : Int) = CV ∧ (CV = 0 ∧ (cut < 0) = True ∨ CV = 64 ∧ (cut < 0) = False ∧ (64 < cut) = True ∨ CV = cut ∧ (cut < 0) = False ∧ (64 < cut) = False) := by
    refine ⟨_, rfl, ?_⟩
    unfold cutN
    by_cases q1 : cut < 0
    · left; simp [q1]
    · by_cases q2 : 64 < cut
      · right; left; simp [q1, q2]
      · right; right; simp [q1, q2]; omega
  obtain ⟨CV, hcv, hcc⟩ := hcc
  have HCV := hide hcv
  have HCN := hide (cutN_le cut)
  clear hcv
  generalize hcn : cutN cut = cn at *
  have HCE := hide hcn
  clear hcn
  rcases hcc with ⟨rfl, u1⟩ | ⟨rfl, u1, u2⟩ | ⟨hcu, u1, u2⟩
  rotate_left 2
  have hcu' := hcu.symm
  subst hcu'
  clear hcu
  all_goals
    go_enter Try.func46, Try.ntmps46
    go_wp2_with fail
    go_loopw [8] (fun i wr => ∃ k : Nat, k ≤ L ∧ i = .int .i64 k ∧ Rp wr m sb sc pa pc { d with safe := crashF keep torn cn 0 (d.pend.take k) d.safe } vs ∧ Kept [sb] w wr) (fun i _ => L - (intOf i).toNat)
    case atStart => exact ⟨0, by omega, rfl, unhide H, Kept.refl _ _⟩
    case round =>
      obtain ⟨k, hk, rfl, hd, hkp⟩ := hrel
      have c1' := (rp_cells hd).2.1
      simp only [unhide HL] at c1'
      by_cases hkl : k < L
      · obtain ⟨x, p, dv, hx, hxo, rfl, q0, q1, hse, hds, g, cap, rfl⟩ := hd.pend_at (i := k) (show k < d.pend.length by rw [unhide HL]; exact hkl)
        have hvw := (unhide HV).keptO hkp (unhide HVG)
        have HSN := hide (crash_snoc (keep := keep) (torn := torn) (cut := cn) hx d.safe)
        have HD := hide hd
        have HXO := hide hxo
        have HKP := hide hkp
        have t1 : (k : Int) < (L : Int) := by omega
        by_cases hkt : (k : Int) = torn
        · have hc0 := rcarry_any hd hxo (unhide HCN) hse hds
          rw [unhide HCV] at hc0
          have HC := hide hc0
          have HE : Hid (crashF keep torn cn 0 (d.pend.take (k + 1)) d.safe = Go.Proofs.Ytfaoblnghkiibaa.lay (crashF keep torn cn 0 (d.pend.take k) d.safe) x.k cn x.d) := by
            have := unhide HSN
            rw [crash1, if_pos hkt] at this
            exact this
          have t2 : ((k : Int) == torn) = true := by simp [hkt]
          clear hd hkp hse hds hx hxo hc0 hkt HSN hvw
          go_wp2_with (first
            | (go_at_call 45; refine (unhide HC).mono ?_; rintro e w2 ⟨rfl, ho2, hk2⟩; have HO2 := hide ho2; have HK2 := hide hk2; clear HC ho2 hk2))
          refine ⟨⟨k + 1, by omega, by simp, ?_, (unhide HKP).trans (unhide HK2) (fun y hy => Or.inl hy)⟩, by simp [intOf]; omega⟩
          rw [unhide HE]
          exact (unhide HD).lay (unhide HK2) (unhide HO2) (lay_len (unhide HD).ok.len (unhide HXO).lt (unhide HXO).len (unhide HCN)) (lay_bytes (unhide HD).ok.byte (unhide HXO).byte)
        · have t2 : ((k : Int) == torn) = false := by simp [hkt]
          obtain ⟨va', vc', hve, hvl, hvc⟩ := hvw
          injection hve with r1 r2 r3
          subst r1
          by_cases hkM : k < M
          · obtain ⟨vb, voff, rfl, hvb, hvcell⟩ := hvc k (by rw [unhide HM]; exact hkM)
            have t3 : (k : Int) < (M : Int) := by omega
            cases hkv : keep.getD k false with
            | true =>
              have HC := hide (rcarry_any hd hxo (n := 64) (by omega) hse hds)
              have HE : Hid (crashF keep torn cn 0 (d.pend.take (k + 1)) d.safe = Go.Proofs.Ytfaoblnghkiibaa.lay (crashF keep torn cn 0 (d.pend.take k) d.safe) x.k 64 x.d) := by
                have := unhide HSN
                rw [crash1, if_neg hkt, if_pos hkv] at this
                exact this
              rw [hkv] at hvcell
              clear hd hkp hse hds hx hxo hkt HSN hvc hvl hkv r2 r3
              go_wp2_with (first
                | (go_at_call 45; refine (unhide HC).mono ?_; rintro e w2 ⟨rfl, ho2, hk2⟩; have HO2 := hide ho2; have HK2 := hide hk2; clear HC ho2 hk2))
              refine ⟨⟨k + 1, by omega, by simp, ?_, (unhide HKP).trans (unhide HK2) (fun y hy => Or.inl hy)⟩, by simp [intOf]; omega⟩
              rw [unhide HE]
              exact (unhide HD).lay (unhide HK2) (unhide HO2) (lay_len (unhide HD).ok.len (unhide HXO).lt (unhide HXO).len (by omega)) (lay_bytes (unhide HD).ok.byte (unhide HXO).byte)
            | false =>
              have HE : Hid (crashF keep torn cn 0 (d.pend.take (k + 1)) d.safe = crashF keep torn cn 0 (d.pend.take k) d.safe) := by
                have := unhide HSN
                rw [crash1, if_neg hkt, if_neg (by rw [hkv]; simp)] at this
                exact this
              rw [hkv] at hvcell
              clear hd hkp hse hds hx hxo hkt HSN hvc hvl hkv r2 r3
              go_wp2_with fail
              refine ⟨⟨k + 1, by omega, by simp, ?_, unhide HKP⟩, by simp [intOf]; omega⟩
              rw [unhide HE]; exact unhide HD
          · have t3 : ((k : Int) < (M : Int)) = False := by simp; omega
            have hkv : keep.getD k false = false := by
              have : keep.length ≤ k := by rw [unhide HM]; omega
              simp [List.getElem?_eq_none this]
            have HE : Hid (crashF keep torn cn 0 (d.pend.take (k + 1)) d.safe = crashF keep torn cn 0 (d.pend.take k) d.safe) := by
              have := unhide HSN
              rw [crash1, if_neg hkt, if_neg (by rw [hkv]; simp)] at this
              exact this
            clear hd hkp hse hds hx hxo hkt HSN hvc hvl hkv r2 r3 hkM
            go_wp2_with fail
            refine ⟨⟨k + 1, by omega, by simp, ?_, unhide HKP⟩, by simp [intOf]; omega⟩
            rw [unhide HE]; exact unhide HD
      · obtain rfl : k = L := by omega
        have hfull : d.pend.take k = d.pend := by rw [← unhide HL, List.take_length]
        rw [hfull] at hd
        have c2' := (rp_cells hd).2.2.1
        simp only at c2'
        have f1 := hd.head.frozen 1
        have f2 := hd.head.frozen 2
        have hn := hd.noPend
        have key : ∀ w' : World, Kept [m] (wr.setCell ⟨m, 1, none⟩ (.slice none 0 0)) w' → Blk w' m (rcells sb sc d.n (.slice none 0 0) none d.wr d.sy) 73 → Rk w' m G (d.crash keep torn cut) ∧ Nx G w G w' := by
          intro w' hk' hb'
          have hk1 : Kept [m, sb] w (wr.setCell ⟨m, 1, none⟩ (.slice none 0 0)) := (hkp.mono (G := [m, sb]) (fun x hx => by simp at hx; subst hx; simp)).setCell (p := ⟨m, 1, none⟩) (Or.inl (by simp)) _
          have hk2 : Kept G w w' := (hk1.trans hk' (fun x hx => by simp at hx; subst hx; simp)).mono (fun x hx => by simp at hx; rcases hx with rfl | rfl; exact Or.inl (unhide HFF).1; exact Or.inl (unhide HFF).2.1)
          have hr := hn.setHead hk' (f := none) (wr := d.wr) (sy := d.sy) hb' (fun x hx => by cases hx)
          rw [← unhide HCE] at hr
          exact ⟨⟨sb, sc, none, 0, [], hr, (unhide HFF).1, (unhide HFF).2.1, fun p hp => (by cases hp), fun v hv => (by simp at hv), fun x hx => Nat.lt_of_lt_of_le ((unhide HFF).2.2 x hx) hk2.size⟩, hk2, fun x hx => Or.inl hx⟩
        have KEY := hide key
        have HH := hide hn.head
        clear key hn hd hkp hfull
        go_wp2_with fail
        refine bodyPost_end (results_none rfl _ _ _) rfl ?_
        refine ⟨rfl, unhide KEY _ ((Kept.refl [m] _).setCell (p := ⟨m, 2, none⟩) (Or.inl (by simp)) _) ?_⟩
        have := (unhide HH).set 2 (.int .i64 (-1))
        simpa [rcells, leftOf] using this
end Go.Proofs.Ytfaoblnghkiibaa
