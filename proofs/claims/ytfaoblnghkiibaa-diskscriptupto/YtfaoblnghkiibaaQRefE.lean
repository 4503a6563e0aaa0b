/- The document's disk: Sync. -/
import Derived.Test.YtfaoblnghkiibaaQRefC
namespace Go.Proofs.Ytfaoblnghkiibaa
open Go.RowKit

theorem Rp.lay {w w' : World} {m sb sc pc : Nat} {pa : Option Addr} {d : Dm} {vs : List Value} (h : Rp w m sb sc pa pc d vs) (hk : Kept [sb] w w') {s : List Nat} (ho : w'.ownsRow 0 5 1 (.slice (some ⟨sb, 0, none⟩) (64 * d.n) sc) (64 * d.n) (u8s s)) (h1 : s.length = 64 * d.n) (h2 : ∀ x ∈ s, x < 256) : Rp w' m sb sc pa pc { d with safe := s } vs :=
  ⟨⟨h.ok.one, h.ok.most, h1, h2, h.ok.pend, h.ok.fuse⟩, h.head.kept hk (by simpa using h.ms), ho, h.len, own_kept h.pend hk (fun p hp => by simp; exact (h.pb p hp).2), fun j v x q1 q2 => by
    obtain ⟨g, cap, e, r1, r2, r3, r4, r5⟩ := h.data j v x q1 q2
    exact ⟨g, cap, e, r1.kept hk (Or.inr fun p hp' => by rw [e] at hp'; simp [Value.ownBlock] at hp'; subst hp'; simpa using r4), Nat.lt_of_lt_of_le r2 hk.size, r3, r4, r5⟩, h.ms, h.pb⟩
theorem Rp.noPend {w : World} {m sb sc pc : Nat} {pa : Option Addr} {d : Dm} {vs : List Value} (h : Rp w m sb sc pa pc d vs) : Rp (w.setCell ⟨m, 1, none⟩ (.slice none 0 0)) m sb sc none 0 { d with pend := [] } [] := by
  have hk : Kept [m] w (w.setCell ⟨m, 1, none⟩ (.slice none 0 0)) := (Kept.refl _ _).setCell (p := ⟨m, 1, none⟩) (Or.inl (by simp)) _
  exact ⟨⟨h.ok.one, h.ok.most, h.ok.len, h.ok.byte, fun x hx => (by cases hx), h.ok.fuse⟩, h.head.set 1 (.slice none 0 0), own_kept h.safe hk (fun p hp' => by simp [Value.ownBlock] at hp'; subst hp'; simp; exact fun e => h.ms e.symm), rfl, ⟨rfl, Or.inl ⟨rfl, rfl⟩⟩, fun j v x q1 => by simp at q1, h.ms, fun p hp => (by cases hp)⟩
theorem Rp.pend_at {w : World} {m sb sc pc : Nat} {pa : Option Addr} {d : Dm} {vs : List Value} (h : Rp w m sb sc pa pc d vs) {i : Nat} (hi : i < d.pend.length) : ∃ x p dv, d.pend[i]? = some x ∧ x.ok d.n ∧ pa = some ⟨p, 0, none⟩ ∧ w.cell? ⟨p, i * 2, none⟩ = some (.int .i64 (x.k : Int)) ∧ w.cell? ⟨p, i * 2 + 1, none⟩ = some dv ∧ Sees w dv x.d ∧ (∀ g, dv.ownBlock = some g → g ≠ sb) ∧ ∃ g c, dv = .slice (some ⟨g, 0, none⟩) 64 c := by
  have hx := List.getElem?_eq_getElem hi
  have hv : vs[i]? = some (vs[i]'(by rw [h.len]; exact hi)) := List.getElem?_eq_getElem _
  obtain ⟨g, cap, e, r1, r2, r3, r4, r5⟩ := h.data i _ _ hv hx
  obtain ⟨c0, c1⟩ := flatL_at hx hv
  rcases h.pend.2 with ⟨_, h0⟩ | ⟨q, cap', cur, hq, _⟩
  · omega
  · injection hq with e1 e2 e3
    subst e1
    have d0 := h.pend.cells (g := q) (by rw [e3]; rfl) _ _ c0
    have d1 := h.pend.cells (g := q) (by rw [e3]; rfl) _ _ c1
    rw [Addr.add_mid, Nat.zero_add] at d0 d1
    exact ⟨_, q, _, hx, h.ok.pend _ (List.getElem_mem hi), rfl, d0, d1, r1, fun g' hg' => by rw [e] at hg'; simp [Value.ownBlock] at hg'; subst hg'; exact r4, g, cap, e⟩

set_option maxRecDepth 100000 in
theorem rsync_no {w : World} {m : Nat} {G : List Nat} {d : Dm} (h : Rk w m G d) (hf : d.fuse = some 0) :
    Calls Try.prog 33 #[.pointer (some ⟨m, 0, none⟩)] w fun e w' => e = .returned (.int .i64 80) ∧ w' = w := by
  obtain ⟨sb, sc, pa, pc, vs, h, -⟩ := h
  obtain ⟨-, -, c2, -, -⟩ := rp_cells h
  rw [hf] at c2
  simp only [leftOf, Int.natCast_zero] at c2
  clear h hf
  go_enter Try.func33, Try.ntmps33
  go_wp2
  go_ret
  exact ⟨rfl, rfl⟩
set_option maxRecDepth 100000 in
theorem rnsync (w : World) : Calls Try.prog 33 #[.pointer none] w fun e w' => e = .returned (.int .i64 1) ∧ w' = w := by
  go_enter Try.func33, Try.ntmps33
  go_wp2
  go_ret
  exact ⟨rfl, rfl⟩

set_option maxRecDepth 100000 in
set_option maxHeartbeats 2000000 in
theorem rsync_yes {w : World} {m : Nat} {G : List Nat} {d : Dm} (h : Rk w m G d) (hf : d.fuse ≠ some 0) (hpl : d.pend.length ≤ 9223372036854775807) :
    Calls Try.prog 33 #[.pointer (some ⟨m, 0, none⟩)] w fun e w' => e = .returned (.int .i64 0) ∧ Rk w' m G d.sync ∧ Nx G w G w' := by
  obtain ⟨sb, sc, pa, pc, vs, h, hm, hs, hp, hv, hlt⟩ := h
  have HFF : Hid (m ∈ G ∧ sb ∈ G ∧ ∀ x ∈ G, x < w.heap.size) := ⟨hm, hs, hlt⟩
  have hleft : (leftOf d.fuse == 0) = false := by
    cases hq : d.fuse with
    | none => simp [leftOf]
    | some f => simp [leftOf]; intro e; apply hf; rw [hq]; congr 1
  obtain ⟨-, c1, c2, -, -⟩ := rp_cells h
  have H := hide h
  have HF := hide hf
  clear h hm hs hp hv hlt hf
  generalize hL : d.pend.length = L at *
  have HL := hide hL
  clear hL
  generalize hLF : leftOf d.fuse = LF at *
  have HLF := hide hLF
  clear hLF
  go_enter Try.func33, Try.ntmps33
  go_wp2_with fail
  go_loopw [3] (fun i wr => ∃ k : Nat, k ≤ L ∧ i = .int .i64 k ∧ Rp wr m sb sc pa pc { d with safe := carryAll d.safe (d.pend.take k) } vs ∧ Kept [sb] w wr) (fun i _ => L - (intOf i).toNat)
  case atStart => exact ⟨0, by omega, rfl, unhide H, Kept.refl _ _⟩
  case round =>
    obtain ⟨k, hk, rfl, hd, hkp⟩ := hrel
    have c1' := (rp_cells hd).2.1
    simp only [unhide HL] at c1'
    by_cases hkl : k < L
    · obtain ⟨x, p, dv, hx, hxo, rfl, q0, q1, hse, hds, g, cap, rfl⟩ := hd.pend_at (i := k) (show k < d.pend.length by rw [unhide HL]; exact hkl)
      have HC := hide (rcarry_any hd hxo (n := 64) (by omega) hse hds)
      have HE : Hid (carryAll d.safe (d.pend.take (k + 1)) = Go.Proofs.Ytfaoblnghkiibaa.lay (carryAll d.safe (d.pend.take k)) x.k 64 x.d) := by
        have : d.pend.take (k + 1) = d.pend.take k ++ [x] := take_succ_at hx
        unfold Hid
        rw [this, carryAll_snoc]
      have HD := hide hd
      have HXO := hide hxo
      have HKP := hide hkp
      clear hd hkp hse hds hx hxo
      have t1 : (k : Int) < (L : Int) := by omega
      go_wp2_with (first
        | (go_at_call 45; refine (unhide HC).mono ?_; rintro e w2 ⟨rfl, ho2, hk2⟩; have HO2 := hide ho2; have HK2 := hide hk2; clear HC ho2 hk2))
      refine ⟨⟨k + 1, by omega, by simp, ?_, (unhide HKP).trans (unhide HK2) (fun y hy => Or.inl hy)⟩, by simp [intOf]; omega⟩
      rw [unhide HE]
      exact (unhide HD).lay (unhide HK2) (unhide HO2) (lay_len (unhide HD).ok.len (unhide HXO).lt (unhide HXO).len (by omega)) (lay_bytes (unhide HD).ok.byte (unhide HXO).byte)
    · obtain rfl : k = L := by omega
      have hfull : d.pend.take k = d.pend := by rw [← unhide HL, List.take_length]
      rw [hfull] at hd
      have c4' := (rp_cells hd).2.2.2.2
      have c2' := (rp_cells hd).2.2.1
      simp only [unhide HLF] at c2'
      simp only at c4'
      have f1 := hd.head.frozen 1
      have f2 := hd.head.frozen 2
      have f4 := hd.head.frozen 4
      have hn := hd.noPend
      have key : ∀ w' : World, Kept [m] (wr.setCell ⟨m, 1, none⟩ (.slice none 0 0)) w' → Blk w' m (rcells sb sc d.n (.slice none 0 0) (burn d.fuse) d.wr (one d.sy)) 73 → Rk w' m G d.sync ∧ Nx G w G w' := by
        intro w' hk' hb'
        have hk1 : Kept [m, sb] w (wr.setCell ⟨m, 1, none⟩ (.slice none 0 0)) := (hkp.mono (G := [m, sb]) (fun x hx => by simp at hx; subst hx; simp)).setCell (p := ⟨m, 1, none⟩) (Or.inl (by simp)) _
        have hk2 : Kept G w w' := (hk1.trans hk' (fun x hx => by simp at hx; subst hx; simp)).mono (fun x hx => by simp at hx; rcases hx with rfl | rfl; exact Or.inl (unhide HFF).1; exact Or.inl (unhide HFF).2.1)
        refine ⟨⟨sb, sc, none, 0, [], hn.setHead hk' hb' (Dm.sync_ok (unhide H).ok).fuse, (unhide HFF).1, (unhide HFF).2.1, fun p hp => (by cases hp), fun v hv => (by simp at hv), fun x hx => Nat.lt_of_lt_of_le ((unhide HFF).2.2 x hx) hk2.size⟩, hk2, fun x hx => Or.inl hx⟩
      have KEY := hide key
      have HH := hide hn.head
      clear key hn hd hkp hfull
      cases hq : d.fuse with
      | none =>
        have eL : LF = -1 := by have := unhide HLF; rw [hq] at this; exact this.symm
        subst eL
        rw [hq] at KEY HH
        clear HF HLF hq
        go_wp2_with fail
        go_ret
        refine ⟨rfl, unhide KEY _ ((Kept.refl [m] _).setCell (p := ⟨m, 4, none⟩) (Or.inl (by simp)) _) ?_⟩
        have := (unhide HH).set 4 (.int .i64 (wrap64 (d.sy + 1)))
        rw [wrap64_one] at this
        rw [wrap64_one]
        simpa [rcells, leftOf, burn] using this
      | some f =>
        have eL : LF = (f : Int) := by have := unhide HLF; rw [hq] at this; exact this.symm
        subst eL
        have hf1 : 0 < f := Nat.pos_of_ne_zero (fun e => unhide HF (by rw [hq, e]))
        have hf2 : f ≤ 9223372036854775807 := (unhide H).ok.fuse f hq
        rw [hq] at KEY HH
        have t1 : ((0 : Int) < (f : Int)) = True := by simp; omega
        have HW : Hid (((f : Int) - 1) = ((f - 1 : Nat) : Int)) := by unfold Hid; omega
        clear HF HLF hq
        go_wp2_with fail
        go_ret
        refine ⟨rfl, unhide KEY _ (((Kept.refl [m] _).setCell (p := ⟨m, 4, none⟩) (Or.inl (by simp)) _).setCell (p := ⟨m, 2, none⟩) (Or.inl (by simp)) _) ?_⟩
        have := ((unhide HH).set 4 (.int .i64 (wrap64 (d.sy + 1)))).set 2 (.int .i64 ((f - 1 : Nat) : Int))
        rw [wrap64_one] at this
        rw [wrap64_one, unhide HW]
        simpa [rcells, leftOf, burn] using this
end Go.Proofs.Ytfaoblnghkiibaa
