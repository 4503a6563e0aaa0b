/- Sync. -/
import Derived.Test.YtfaoblnghkiibaaQCarry
namespace Go.Proofs.Ytfaoblnghkiibaa
open Go.RowKit

theorem wrap64_one (x : Int) : wrap64 (x + 1) = one x := by unfold one wrap64; rw [IntKind.wrap_i64]
theorem carryAll_snoc (s : List Nat) (ps : List Wt) (x : Wt) : carryAll s (ps ++ [x]) = lay (carryAll s ps) x.k 64 x.d := by simp [carryAll]
/-- the row of pending writes is given up -/
theorem Dp.noPend {w : World} {b g pc : Nat} {pa : Option Addr} {d : Dm} (h : Dp w b g pa pc d) : Dp (w.setCell ⟨b, 1, none⟩ (.slice none 0 0)) b g none 0 { d with pend := [] } := by
  have hk : Kept [b] w (w.setCell ⟨b, 1, none⟩ (.slice none 0 0)) := (Kept.refl _ _).setCell (p := ⟨b, 1, none⟩) (Or.inl (by simp)) _
  exact ⟨⟨h.ok.one, h.ok.most, h.ok.len, h.ok.byte, fun x hx => (by cases hx), h.ok.fuse⟩, h.head.set 1 (.slice none 0 0), h.safe.kept hk (by simp; exact fun e => h.bg e.symm), ⟨rfl, Or.inl ⟨rfl, rfl⟩⟩, h.bg, fun p hp => by cases hp⟩
theorem Dp.pend_at {w : World} {b g pc : Nat} {pa : Option Addr} {d : Dm} (h : Dp w b g pa pc d) {i : Nat} (hi : i < d.pend.length) : ∃ x p, d.pend[i]? = some x ∧ x.ok d.n ∧ pa = some ⟨p, 0, none⟩ ∧ p ≠ g ∧ p < w.heap.size ∧ w.rangeAt p (i * 65) (wc x) := by
  obtain ⟨p, hp, hr⟩ := dp_pend h (List.getElem?_eq_getElem hi)
  have hxo := h.ok.pend d.pend[i] (List.getElem_mem hi)
  have hc := hr 0 (.int .i64 (d.pend[i].k : Int)) rfl
  refine ⟨_, p, List.getElem?_eq_getElem hi, hxo, hp, (h.pb p (by rw [hp]; rfl)).2, ?_, hr⟩
  exact World.block_lt_of_cell? w _ hc

set_option maxRecDepth 100000 in
theorem sync_no {w : World} {b : Nat} {F : List Nat} {d : Dm} (h : Dk w b F d) (hf : d.fuse = some 0) :
    Calls Try.prog 22 #[.pointer (some ⟨b, 0, none⟩)] w fun e w' => e = .returned (.int .i64 80) ∧ w' = w := by
  obtain ⟨g, pa, pc, h, -⟩ := h
  have HP := hide (power_any h)
  have e : pE d = 80 := by simp [pE, hf]
  rw [e] at HP
  clear h e hf
  go_enter Try.func22, Try.ntmps22
  go_wp2_with (first | (go_at_call 43; refine (unhide HP).mono ?_; rintro e w' ⟨rfl, hq⟩; subst hq; clear HP))
  go_ret
  exact ⟨rfl, rfl⟩
set_option maxRecDepth 100000 in
theorem nsync (w : World) : Calls Try.prog 22 #[.pointer none] w fun e w' => e = .returned (.int .i64 1) ∧ w' = w := by
  have HP := hide (npower w)
  go_enter Try.func22, Try.ntmps22
  go_wp2_with (first | (go_at_call 43; refine (unhide HP).mono ?_; rintro e w' ⟨rfl, hq⟩; subst hq; clear HP))
  go_ret
  exact ⟨rfl, rfl⟩

set_option maxRecDepth 100000 in
set_option maxHeartbeats 1000000 in
theorem sync_yes {w : World} {b : Nat} {F : List Nat} {d : Dm} (h : Dk w b F d) (hf : d.fuse ≠ some 0) (hpl : d.pend.length ≤ 9223372036854775807) :
    Calls Try.prog 22 #[.pointer (some ⟨b, 0, none⟩)] w fun e w' => e = .returned (.int .i64 0) ∧ Dk w' b F d.sync ∧ Nx F w F w' := by
  obtain ⟨g, pa, pc, h, hb, hg, hp, hlt⟩ := h
  have HP := hide (power_any h)
  have e : pE d = 0 := by simp [pE, hf]
  rw [e] at HP
  clear e
  obtain ⟨-, c1, -, -, -, -⟩ := dp_cells h
  have H := hide h
  have HF := hide hf
  have HFF : Hid (b ∈ F ∧ g ∈ F ∧ ∀ x ∈ F, x < w.heap.size) := ⟨hb, hg, hlt⟩
  clear h hf hb hg hp hlt
  generalize hL : d.pend.length = L at *
  have HL := hide hL
  clear hL
  go_enter Try.func22, Try.ntmps22
  go_wp2_with (first | (go_at_call 43; refine (unhide HP).mono ?_; rintro e w' ⟨rfl, hq⟩; have hq' := hq.symm; subst hq'; clear HP))
  go_loopw [16] (fun i wr => ∃ k : Nat, k ≤ L ∧ i = .int .i64 k ∧ Dp wr b g pa pc { d with safe := carryAll d.safe (d.pend.take k) } ∧ Kept [g] w wr) (fun i _ => L - (intOf i).toNat)
  case atStart => exact ⟨0, by omega, rfl, unhide H, Kept.refl _ _⟩
  case round =>
    obtain ⟨k, hk, rfl, hd, hkp⟩ := hrel
    by_cases hkl : k < L
    · obtain ⟨x, p, hx, hxo, rfl, hpg, hpl2, hr⟩ := hd.pend_at (i := k) (show k < d.pend.length by rw [unhide HL]; exact hkl)
      have HR := hide hr
      have HXL := hide (wc_len hxo)
      have hka : Kept [] wr (wr.alloc (.cells (wc x).toArray 79)) := (Kept.refl _ _).alloc _
      have HC := hide (carry_any (hd.keep hka (by simp) (by simp) (by simp)) hxo (n := 64) (by omega))
      have HE : Hid (carryAll d.safe (d.pend.take (k + 1)) = lay (carryAll d.safe (d.pend.take k)) x.k 64 x.d) := by
        have : d.pend.take (k + 1) = d.pend.take k ++ [x] := take_succ_at hx
        unfold Hid
        rw [this, carryAll_snoc]
      have HKP := hide hkp
      have HKA := hide hka
      have HNW := hide (Blk.new wr (wc x).toArray 79)
      clear hr hxo hd hkp hka hx hpg hpl2
      have t1 : (k : Int) < (L : Int) := by omega
      go_wp2_with (first
        | (guard_target =~ wpList _ _ _ _ _ _; refine wpList_load_mid rfl 79 _ rfl p (k * 65) rfl (wc x) _ (unhide HR) Try.underlying79 rfl (by rw [unhide HXL]; exact size79) ?_)
        | (guard_target =~ wpList _ _ _ _ _ _; refine wpList_alloc_z 79 z79 rfl rfl zero79 ?_)
        | (guard_target =~ wpList _ _ _ _ _ _; refine wpList_store_new _ _ 79 z79.toArray (wc x) rfl rfl rfl rfl (by rw [unhide HXL]; exact size79) (by rw [unhide HXL]; simp [z79_len]) (wc_one _) rfl ?_)
        | (guard_target =~ wpList _ _ _ _ _ _; refine wpList_load_mid rfl 79 _ rfl wr.heap.size 0 rfl (wc x) _ (fun j v hv => by rw [Nat.zero_add, (unhide HNW).cell]; simpa using hv) Try.underlying79 rfl (by rw [unhide HXL]; exact size79) ?_)
        | (go_at_call 44; refine (unhide HC).mono ?_; rintro e w2 ⟨rfl, hd2, hk2⟩; have HD2 := hide hd2; have HK2 := hide hk2; clear HC hd2 hk2))
      refine ⟨⟨k + 1, by omega, by simp, ?_, ?_⟩, by simp [intOf]; omega⟩
      · rw [unhide HE]; exact unhide HD2
      · exact ((unhide HKP).trans (unhide HKA) (fun _ hx => by cases hx)).trans (unhide HK2) (fun y hy => Or.inl hy)
    · obtain rfl : k = L := by omega
      have hfull : d.pend.take k = d.pend := by rw [← unhide HL, List.take_length]
      rw [hfull] at hd
      have c5' := (dp_cells hd).2.2.2.2.2
      have c1' := (dp_cells hd).2.1
      have f1 := hd.head.frozen 1
      have hn := hd.noPend
      have hk1 : Kept [b, g] w (wr.setCell ⟨b, 1, none⟩ (.slice none 0 0)) := (hkp.mono (G := [b, g]) (fun x hx => by simp at hx; subst hx; simp)).setCell (p := ⟨b, 1, none⟩) (Or.inl (by simp)) _
      have f5 := hd.head.frozen 5
      have hs := hn.setHead 5 (.int .i64 (wrap64 (d.sy + 1))) (f := d.fuse) (wr := d.wr) (sy := one d.sy) (by rw [wrap64_one]; rfl) hn.ok.fuse
      have hk2 : Kept [b, g] w ((wr.setCell ⟨b, 1, none⟩ (.slice none 0 0)).setCell ⟨b, 5, none⟩ (.int .i64 (wrap64 (d.sy + 1)))) := hk1.setCell (p := ⟨b, 5, none⟩) (Or.inl (by simp)) _
      have HB := hide (burn_any hs (unhide HF))
      have HK2 := hide hk2
      clear hn hd hkp hs hk1 hk2 hfull
      go_wp2_with (first
        | (go_at_call 41; refine (unhide HB).mono ?_; rintro e w2 ⟨rfl, hd2, hk2⟩; have HD2 := hide hd2; have HK3 := hide hk2; clear HB hd2 hk2))
      go_ret
      refine ⟨rfl, ?_, ?_⟩
      · have hsz : w.heap.size ≤ w2.heap.size := Nat.le_trans (unhide HK2).size (unhide HK3).size
        exact ⟨g, none, 0, unhide HD2, (unhide HFF).1, (unhide HFF).2.1, fun p hp => (by cases hp), fun x hx => Nat.lt_of_lt_of_le ((unhide HFF).2.2 x hx) hsz⟩
      · exact ⟨((unhide HK2).trans (unhide HK3) (fun x hx => by simp at hx; subst hx; simp)).mono (fun x hx => by simp at hx; rcases hx with rfl | rfl; exact Or.inl (unhide HFF).1; exact Or.inl (unhide HFF).2.1), fun x hx => Or.inl hx⟩
end Go.Proofs.Ytfaoblnghkiibaa
