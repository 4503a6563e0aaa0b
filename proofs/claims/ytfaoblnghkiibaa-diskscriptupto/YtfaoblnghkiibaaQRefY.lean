import Derived.Test.YtfaoblnghkiibaaQRefV
import Derived.BigRegion
import Derived.Deep.RegionLaw
import Derived.Deep.DeepCutAuto
namespace Go.Proofs.Ytfaoblnghkiibaa
open Go.RowKit
set_option maxRecDepth 100000 in
set_option maxHeartbeats 2000000 in
theorem rwrite_yes {w : World} {m : Nat} {G : List Nat} {d : Dm} (h : Rk w m G d) {k : Nat} (hx : rE d (k : Int) = 0) {v : Value} {l : List Nat} (hv : Sees w v l) (hl : l.length = 64) (hpl : (d.pend.length + 1) * 32 ≤ 140737488355328) :
    Calls Try.prog 31 #[.pointer (some ⟨m, 0, none⟩), .int .i64 (k : Int), v] w fun e w' => ∃ G', e = .returned (.int .i64 0) ∧ Rk w' m G' (d.write k l) ∧ Nx G w G' w' := by
  have HS := hide (rsectors_any h)
  obtain ⟨sb, sc, pa, pc, vs, h, hm, hs, hp, hvv, hlt⟩ := h
  have HFF : Hid (m ∈ G ∧ sb ∈ G ∧ (∀ p, (Value.slice pa d.pend.length pc).ownBlock = some p → p ∈ G) ∧ (∀ v ∈ vs, ∀ p, v.ownBlock = some p → p ∈ G) ∧ ∀ x ∈ G, x < w.heap.size) := ⟨hm, hs, hp, hvv, hlt⟩
  obtain ⟨k', hk', hkn, hf⟩ := rE_zero hx
  obtain rfl : k = k' := by omega
  obtain ⟨-, c1, c2, c3, -⟩ := rp_cells h
  have hf' := left_ne hf
  have H := hide h
  have HF := hide hf
  have HC := hide (copied_any (hv.kept (Kept.refl [] w).drew (Or.inr (by simp))) (by omega))
  rw [hl] at HC
  have HB : Hid (∀ x ∈ l, x < 256) := by obtain ⟨_, _, _, _, _, hb, _⟩ := hv; exact hb
  have HKN := hide hkn
  generalize hLF : leftOf d.fuse = LF at *
  have HLF := hide hLF
  obtain ⟨a, cap, rfl, -⟩ := hv
  have t1 : ((k : Int) < 0) = False := by simp
  have t2 : ((d.n : Int) ≤ (k : Int)) = False := by simp; omega
  have HL := hide hl
  have HPL := hide hpl
  rw [hl]
  rw [hl] at HC
  clear h hx hk' hkn hf hl hm hs hp hvv hlt hLF
  go_enter Try.func31, Try.ntmps31
  go_wp2_with (first | (go_at_call 38; refine (unhide HS).mono ?_; rintro e w' ⟨rfl, hq⟩; have hq' := hq.symm; subst hq'; clear hq HS))
  go_cut [36] (fun _ wc => ∃ a3 c3v g2 cap2, Hid (Rp wc m sb sc a3 c3v { d with pend := d.pend ++ [⟨k, l⟩] } (vs ++ [.slice (some ⟨g2, 0, none⟩) 64 cap2]) ∧ Kept G w wc ∧ w.heap.size ≤ g2 ∧ g2 < wc.heap.size ∧ ∀ q, (Value.slice a3 (d.pend.length + 1) c3v).ownBlock = some q → (q ∈ G ∨ w.heap.size ≤ q) ∧ q < wc.heap.size))
  case first =>
    go_region_law (first
      | (refine step_append_runE (by rfl) _ _ 71 71 (by rfl) _ _ (by rfl) (by rfl) (unhide HAP) ?_)
      | (go_simp; go_at_call 30; refine (unhide HC).mono ?_; rintro e w2 ⟨a2, cap2, rfl, ho, hk⟩
         have hk0 : Kept [] w w2 := ((Kept.refl [] w).drew).trans hk (fun _ hx => by cases hx)
         have hR2 : Rp w2 m sb sc pa pc d vs := (unhide H).keep hk0 (by simp) (by simp) (by simp) (by simp)
         obtain ⟨g2, c9, hv9, hg9, hgl9, -, -⟩ := row_of_own ho (by omega)
         have hg9' : w.heap.size ≤ g2 := hg9
         injection hv9 with e7 e8 e9
         subst e7
         have hlw := (unhide HFF).2.2.2.2
         have hmw := hlw m (unhide HFF).1
         have hsw := hlw sb (unhide HFF).2.1
         obtain ⟨a3, c3v, w3, hap, hk3, hnb3, hlt3, hR3⟩ := rp_append hR2 (unhide HKN) (unhide HL) (unhide HB) (sees_image ho (unhide HB)) (by omega) (by omega) (fun e => by have := hlw g2 ((unhide HFF).2.2.1 g2 e); omega) hgl9 (Nat.lt_of_lt_of_le hmw hk0.size) (Nat.lt_of_lt_of_le hsw hk0.size) (unhide HPL) 71
         have hb3 := hR2.head.kept hk3 (fun hm => by simp at hm; exact (hR2.pb m hm).1 rfl)
         have HREL : Hid (∃ a5 c5 g5 cp5, Hid (Rp (w3.setCell ⟨m, 1, none⟩ (.slice a3 (d.pend.length + 1) c3v)) m sb sc a5 c5 { d with pend := d.pend ++ [⟨k, l⟩] } (vs ++ [.slice (some ⟨g5, 0, none⟩) 64 cp5]) ∧ Kept G w (w3.setCell ⟨m, 1, none⟩ (.slice a3 (d.pend.length + 1) c3v)) ∧ w.heap.size ≤ g5 ∧ g5 < (w3.setCell ⟨m, 1, none⟩ (.slice a3 (d.pend.length + 1) c3v)).heap.size ∧ ∀ q, (Value.slice a5 (d.pend.length + 1) c5).ownBlock = some q → (q ∈ G ∨ w.heap.size ≤ q) ∧ q < (w3.setCell ⟨m, 1, none⟩ (.slice a3 (d.pend.length + 1) c3v)).heap.size)) := by
           have hkm : Kept [m] w3 (w3.setCell ⟨m, 1, none⟩ (.slice a3 (d.pend.length + 1) c3v)) := (Kept.refl _ _).setCell (p := ⟨m, 1, none⟩) (Or.inl (by simp)) _
           have hkw : Kept G w w3 := (hk0.mono (G := G) (fun _ hx => by cases hx)).trans hk3 (fun x hx => by left; simp at hx; exact (unhide HFF).2.2.1 x hx)
           refine ⟨a3, c3v, g2, cap2, hR3, hkw.trans hkm (fun x hx => by simp at hx; subst hx; exact Or.inl (unhide HFF).1), hg9', Nat.lt_of_lt_of_le hgl9 (Nat.le_trans hk3.size hkm.size), fun q hq => ⟨?_, Nat.lt_of_lt_of_le (hlt3 q hq) hkm.size⟩⟩
           rcases hnb3 q hq with e | e
           · exact Or.inl ((unhide HFF).2.2.1 q e)
           · right; have := hk0.size; omega
         have HAP := hide hap
         have p1 := (hk0.cell (p := ⟨m, 1, none⟩) hmw (by simp)).trans c1
         have p2 : (w2.alloc (.cells #[.int .i64 (k : Int), .slice (some ⟨g2, 0, none⟩) 64 cap2] 83)).cell? ⟨m, 1, none⟩ = some (.slice pa d.pend.length pc) := (((Kept.refl [] w2).alloc _).cell (p := ⟨m, 1, none⟩) (Nat.lt_of_lt_of_le hmw hk0.size) (by simp)).trans p1
         have p3 : w3.cell? ⟨m, 1, none⟩ = some (.slice pa d.pend.length pc) := by rw [hb3.cell]; simp [rcells]
         have f1 := hb3.frozen 1
         clear HC ho hk hk0 hR2 hg9 hg9' hgl9 e8 e9 hlw hmw hsw hap hk3 hnb3 hlt3 hR3 hb3
         dsimp only))
    all_goals (go_wp2_with fail; go_meet)
    all_goals exact unhide HREL
  case rest =>
    obtain ⟨a3, c3v, g2, cap2, hcc⟩ := hcut
    have HCC := hide hcc
    obtain ⟨hR, hK, hg, hgl, hq⟩ := unhide hcc
    have c2' := (rp_cells hR).2.2.1
    have c3' := (rp_cells hR).2.2.2.1
    simp only [unhide HLF] at c2'
    simp only at c3'
    have f2 := hR.head.frozen 2
    have f3 := hR.head.frozen 3
    have key : ∀ w' : World, Kept [m] wc w' → Blk w' m (rcells sb sc d.n (.slice a3 (d.pend.length + 1) c3v) (burn d.fuse) (one d.wr) d.sy) 73 → ∃ G', Rk w' m G' (d.write k l) ∧ Nx G w G' w' := by
      intro w' hk' hb'
      have hkk : Kept G w w' := hK.trans hk' (fun x hx => by simp at hx; subst hx; exact Or.inl (unhide HFF).1)
      have hlen : (d.pend ++ [(⟨k, l⟩ : Wt)]).length = d.pend.length + 1 := by simp
      refine ⟨m :: sb :: g2 :: ((Value.slice a3 (d.pend.length + 1) c3v).ownBlock.toList ++ G), ⟨sb, sc, a3, c3v, vs ++ [.slice (some ⟨g2, 0, none⟩) 64 cap2], ?_, by simp, by simp, fun p hp => ?_, fun v hv p hp => ?_, fun x hx => ?_⟩, hkk, fun x hx => ?_⟩
      · exact hR.setHead hk' (by simpa using hb') (Dm.write_ok (unhide H).ok (unhide HKN) (unhide HL) (unhide HB)).fuse
      · have hp' : (Value.slice a3 (d.pend.length + 1) c3v).ownBlock = some p := by simpa [Dm.write] using hp
        simp [hp']
      · simp only [List.mem_append, List.mem_singleton] at hv
        rcases hv with hv | rfl
        · simp [(unhide HFF).2.2.2.1 v hv p hp]
        · simp [Value.ownBlock] at hp; simp [hp]
      · simp only [List.mem_cons, List.mem_append, Option.mem_toList] at hx
        have hs' := hk'.size
        have hkz := hkk.size
        rcases hx with rfl | rfl | rfl | hx | hx
        · exact Nat.lt_of_lt_of_le ((unhide HFF).2.2.2.2 _ (unhide HFF).1) hkz
        · exact Nat.lt_of_lt_of_le ((unhide HFF).2.2.2.2 _ (unhide HFF).2.1) hkz
        · omega
        · have := (hq x hx).2; omega
        · exact Nat.lt_of_lt_of_le ((unhide HFF).2.2.2.2 _ hx) hkz
      · simp only [List.mem_cons, List.mem_append, Option.mem_toList] at hx
        rcases hx with rfl | rfl | rfl | hx | hx
        · exact Or.inl (unhide HFF).1
        · exact Or.inl (unhide HFF).2.1
        · exact Or.inr hg
        · exact (hq x hx).1
        · exact Or.inl hx
    have KEY := hide key
    have HH : Hid (Blk wc m (rcells sb sc d.n (.slice a3 (d.pend.length + 1) c3v) d.fuse d.wr d.sy) 73) := by
      unfold Hid
      have := hR.head
      simpa using this
    clear key hR hK hg hgl hq hcc HCC
    cases hq : d.fuse with
    | none =>
      have eL : LF = -1 := by have := unhide HLF; rw [hq] at this; exact this.symm
      subst eL
      rw [hq] at KEY HH
      clear HF HLF hq
      go_wp2_with fail
      go_ret
      obtain ⟨G', h1, h2⟩ := unhide KEY (wc.setCell ⟨m, 3, none⟩ (.int .i64 (wrap64 (d.wr + 1)))) ((Kept.refl [m] _).setCell (p := ⟨m, 3, none⟩) (Or.inl (by simp)) _) (by
        have := (unhide HH).set 3 (.int .i64 (wrap64 (d.wr + 1)))
        rw [wrap64_one] at this ⊢
        simpa [rcells, leftOf, burn] using this)
      exact ⟨G', rfl, h1, h2⟩
    | some f =>
      have eL : LF = (f : Int) := by have := unhide HLF; rw [hq] at this; exact this.symm
      subst eL
      have hf1 : 0 < f := Nat.pos_of_ne_zero (fun e => unhide HF (by rw [hq, e]))
      have hf2 : f ≤ 9223372036854775807 := (unhide H).ok.fuse f hq
      rw [hq] at KEY HH
      have t1 : ((0 : Int) < (f : Int)) = True := by simp; omega
      have HW : Hid (((f : Int) - 1) = ((f - 1 : Nat) : Int)) := by unfold Hid; omega
      clear HF HLF hq
      go_wp2_with fail
      go_ret
      obtain ⟨G', h1, h2⟩ := unhide KEY ((wc.setCell ⟨m, 3, none⟩ (.int .i64 (wrap64 (d.wr + 1)))).setCell ⟨m, 2, none⟩ (.int .i64 ((f : Int) - 1))) (((Kept.refl [m] _).setCell (p := ⟨m, 3, none⟩) (Or.inl (by simp)) _).setCell (p := ⟨m, 2, none⟩) (Or.inl (by simp)) _) (by
        have := ((unhide HH).set 3 (.int .i64 (wrap64 (d.wr + 1)))).set 2 (.int .i64 ((f - 1 : Nat) : Int))
        rw [wrap64_one] at this ⊢
        rw [unhide HW]
        simpa [rcells, leftOf, burn] using this)
      exact ⟨G', rfl, h1, h2⟩
end Go.Proofs.Ytfaoblnghkiibaa
