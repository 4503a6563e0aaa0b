/- Crash. -/
import Derived.Test.YtfaoblnghkiibaaQSync
namespace Go.Proofs.Ytfaoblnghkiibaa
open Go.RowKit

/-- The slice v reads as these Bools. -/
def SeesB (w : World) (v : Value) (l : List Bool) : Prop :=
  ∃ a cap, v = .slice a l.length cap ∧ l.length ≤ 9223372036854775807 ∧ ∀ k, k < l.length → ∃ b off, a = some ⟨b, off, none⟩ ∧ b < w.heap.size ∧ w.cell? ⟨b, off + k, none⟩ = some (.bool (l.getD k false))
theorem SeesB.nil (w : World) : SeesB w (.slice none 0 0) [] := ⟨none, 0, rfl, by simp, fun k hk => by simp at hk⟩
theorem SeesB.kept {F : List Nat} {w w' : World} {v : Value} {l : List Bool} (h : SeesB w v l) (hk : Kept F w w') (hn : ∀ k, v.ownBlock = some k → k ∉ F) : SeesB w' v l := by
  obtain ⟨a, cap, rfl, h1, h2⟩ := h
  refine ⟨a, cap, rfl, h1, fun k hk' => ?_⟩
  obtain ⟨b, off, rfl, h3, h4⟩ := h2 k hk'
  exact ⟨b, off, rfl, Nat.lt_of_lt_of_le h3 hk.size, (hk.cell (p := ⟨b, off + k, none⟩) h3 (hn b rfl)).trans h4⟩

theorem SeesB.keptO {F : List Nat} {w w' : World} {v : Value} {l : List Bool} (h : SeesB w v l) (hk : Kept F w w') (hn : l = [] ∨ ∀ k, v.ownBlock = some k → k ∉ F) : SeesB w' v l := by
  rcases hn with rfl | hn
  · obtain ⟨a, cap, rfl, h1, h2⟩ := h
    exact ⟨a, cap, rfl, h1, fun k hk' => by simp at hk'⟩
  · exact h.kept hk hn

theorem crash_snoc {keep : List Bool} {torn : Int} {cut : Nat} {ps : List Wt} {k : Nat} {x : Wt} (hx : ps[k]? = some x) (s : List Nat) : crashF keep torn cut 0 (ps.take (k + 1)) s = crash1 keep torn cut k x (crashF keep torn cut 0 (ps.take k) s) := by
  rw [take_succ_at hx, crashF_snoc]
  have := (List.getElem?_eq_some_iff.1 hx).1
  rw [List.length_take, Nat.zero_add, Nat.min_eq_left (by omega)]
theorem cut_walk (c : Int) : ((cutN c : Nat) : Int) = if 64 < (if c < 0 then 0 else c) then 64 else if c < 0 then 0 else c := by unfold cutN; split; omega; split <;> omega

set_option maxRecDepth 100000 in
theorem ncrash (w : World) (v : Value) (torn cut : Int) : Calls Try.prog 25 #[.pointer none, v, .int .i64 torn, .int .i64 cut] w fun e w' => e = .returned (.tuple #[]) ∧ w' = w := by
  go_enter Try.func25, Try.ntmps25
  go_wp2
  refine bodyPost_ret (results_none rfl _ _ _) rfl ?_
  exact ⟨rfl, rfl⟩

set_option maxRecDepth 100000 in
set_option maxHeartbeats 1000000 in
theorem crash_anyO {w : World} {b : Nat} {F : List Nat} {d : Dm} (h : Dk w b F d) (hpl : d.pend.length ≤ 9223372036854775807) {v : Value} {keep : List Bool} (hv : SeesB w v keep) (hvF : keep = [] ∨ ∀ k, v.ownBlock = some k → k ∉ F) (torn cut : Int) :
    Calls Try.prog 25 #[.pointer (some ⟨b, 0, none⟩), v, .int .i64 torn, .int .i64 cut] w fun e w' => e = .returned (.tuple #[]) ∧ Dk w' b F (d.crash keep torn cut) ∧ Nx F w F w' := by
  obtain ⟨g, pa, pc, h, hb, hg, hp, hlt⟩ := h
  obtain ⟨-, c1, -, -, -, -⟩ := dp_cells h
  have H := hide h
  have HV := hide hv
  have HVG : Hid (keep = [] ∨ ∀ k, v.ownBlock = some k → k ∉ [g]) := by
    rcases hvF with h0 | h0
    · exact Or.inl h0
    · exact Or.inr fun k hk => by simp; intro e; subst e; exact h0 k hk hg
  have HFF : Hid (b ∈ F ∧ g ∈ F ∧ ∀ x ∈ F, x < w.heap.size) := ⟨hb, hg, hlt⟩
  obtain ⟨va, vc, rfl, hkl, -⟩ := hv
  clear h hb hg hp hlt hvF
  generalize hL : d.pend.length = L at *
  have HL := hide hL
  clear hL
  generalize hM : keep.length = M at *
  have HM := hide hM
  clear hM
  go_enter Try.func25, Try.ntmps25
  go_wp2_with fail
  go_loopw [17] (fun i wr => ∃ k : Nat, k ≤ L ∧ i = .int .i64 k ∧ Dp wr b g pa pc { d with safe := crashF keep torn (cutN cut) 0 (d.pend.take k) d.safe } ∧ Kept [g] w wr) (fun i _ => L - (intOf i).toNat)
  case atStart => exact ⟨0, by omega, rfl, unhide H, Kept.refl _ _⟩
  case round =>
    obtain ⟨k, hk, rfl, hd, hkp⟩ := hrel
    by_cases hkL : k < L
    · obtain ⟨x, p, hx, hxo, rfl, hpg, hpl2, hr⟩ := hd.pend_at (i := k) (show k < d.pend.length by rw [unhide HL]; exact hkL)
      have HR := hide hr
      have HXL := hide (wc_len hxo)
      have hka : Kept [] wr (wr.alloc (.cells (wc x).toArray 79)) := (Kept.refl _ _).alloc _
      have hda := hd.keep hka (by simp) (by simp) (by simp)
      have HSN := hide (crash_snoc (keep := keep) (torn := torn) (cut := cutN cut) hx d.safe)
      have HNW := hide (Blk.new wr (wc x).toArray 79)
      have HKW : Hid (Kept [g] w (wr.alloc (.cells (wc x).toArray 79))) := hkp.trans hka (fun _ hx => by cases hx)
      have t1 : (k : Int) < (L : Int) := by omega
      by_cases hkt : (k : Int) = torn
      · have hc0 := carry_any hda hxo (cutN_le cut)
        rw [cut_walk] at hc0
        have HC := hide hc0
        clear hc0
        have HE : Hid (crashF keep torn (cutN cut) 0 (d.pend.take (k + 1)) d.safe = lay (crashF keep torn (cutN cut) 0 (d.pend.take k) d.safe) x.k (cutN cut) x.d) := by
          have := unhide HSN
          rw [crash1, if_pos hkt] at this
          exact this
        have t2 : ((k : Int) == torn) = true := by simp [hkt]
        clear hr hxo hd hkp hka hx hpg hpl2 HSN hkt hda
        go_wp2_with (first
          | (guard_target =~ wpList _ _ _ _ _ _; refine wpList_load_mid rfl 79 _ rfl p (k * 65) rfl (wc x) _ (unhide HR) Try.underlying79 rfl (by rw [unhide HXL]; exact size79) ?_)
          | (guard_target =~ wpList _ _ _ _ _ _; refine wpList_alloc_z 79 z79 rfl rfl zero79 ?_)
          | (guard_target =~ wpList _ _ _ _ _ _; refine wpList_store_new _ _ 79 z79.toArray (wc x) rfl rfl rfl rfl (by rw [unhide HXL]; exact size79) (by rw [unhide HXL]; simp [z79_len]) (wc_one _) rfl ?_)
          | (guard_target =~ wpList _ _ _ _ _ _; refine wpList_load_mid rfl 79 _ rfl wr.heap.size 0 rfl (wc x) _ (fun j v hv => by rw [Nat.zero_add, (unhide HNW).cell]; simpa using hv) Try.underlying79 rfl (by rw [unhide HXL]; exact size79) ?_)
          | (go_at_call 44; refine (unhide HC).mono ?_; rintro e w2 ⟨rfl, hd2, hk2⟩; have HD2 := hide hd2; have HK2 := hide hk2; clear HC hd2 hk2))
        refine ⟨⟨k + 1, by omega, by simp, ?_, ?_⟩, by simp [intOf]; omega⟩
        · rw [unhide HE]; exact unhide HD2
        · exact (unhide HKW).trans (unhide HK2) (fun y hy => Or.inl hy)
      · have t2 : ((k : Int) == torn) = false := by simp [hkt]
        have hvw := (unhide HV).keptO hkp (unhide HVG)
        have hvw2 := hvw.kept hka (fun _ _ => by simp)
        obtain ⟨va', vc', hve, hvl, hvc⟩ := hvw2
        injection hve with q1 q2 q3
        subst q1
        by_cases hkM : k < M
        · obtain ⟨vb, voff, rfl, hvb, hvcell⟩ := hvc k (by rw [unhide HM]; exact hkM)
          have t3 : (k : Int) < (M : Int) := by omega
          cases hkv : keep.getD k false with
          | true =>
            have HC := hide (carry_any hda hxo (n := 64) (by omega))
            have HE : Hid (crashF keep torn (cutN cut) 0 (d.pend.take (k + 1)) d.safe = lay (crashF keep torn (cutN cut) 0 (d.pend.take k) d.safe) x.k 64 x.d) := by
              have := unhide HSN
              rw [crash1, if_neg hkt, if_pos hkv] at this
              exact this
            rw [hkv] at hvcell
            clear hr hxo hd hkp hka hx hpg hpl2 HSN hkt hda hvw hvc hvl hkv q2 q3
            go_wp2_with (first
              | (guard_target =~ wpList _ _ _ _ _ _; refine wpList_load_mid rfl 79 _ rfl p (k * 65) rfl (wc x) _ (unhide HR) Try.underlying79 rfl (by rw [unhide HXL]; exact size79) ?_)
              | (guard_target =~ wpList _ _ _ _ _ _; refine wpList_alloc_z 79 z79 rfl rfl zero79 ?_)
              | (guard_target =~ wpList _ _ _ _ _ _; refine wpList_store_new _ _ 79 z79.toArray (wc x) rfl rfl rfl rfl (by rw [unhide HXL]; exact size79) (by rw [unhide HXL]; simp [z79_len]) (wc_one _) rfl ?_)
              | (guard_target =~ wpList _ _ _ _ _ _; refine wpList_load_mid rfl 79 _ rfl wr.heap.size 0 rfl (wc x) _ (fun j v hv => by rw [Nat.zero_add, (unhide HNW).cell]; simpa using hv) Try.underlying79 rfl (by rw [unhide HXL]; exact size79) ?_)
              | (go_at_call 44; refine (unhide HC).mono ?_; rintro e w2 ⟨rfl, hd2, hk2⟩; have HD2 := hide hd2; have HK2 := hide hk2; clear HC hd2 hk2))
            refine ⟨⟨k + 1, by omega, by simp, ?_, ?_⟩, by simp [intOf]; omega⟩
            · rw [unhide HE]; exact unhide HD2
            · exact (unhide HKW).trans (unhide HK2) (fun y hy => Or.inl hy)
          | false =>
            have HE : Hid (crashF keep torn (cutN cut) 0 (d.pend.take (k + 1)) d.safe = crashF keep torn (cutN cut) 0 (d.pend.take k) d.safe) := by
              have := unhide HSN
              rw [crash1, if_neg hkt, if_neg (by rw [hkv]; simp)] at this
              exact this
            rw [hkv] at hvcell
            have HD2 := hide hda
            clear hr hxo hd hkp hka hx hpg hpl2 HSN hkt hda hvw hvc hvl hkv q2 q3
            go_wp2_with (first
              | (guard_target =~ wpList _ _ _ _ _ _; refine wpList_load_mid rfl 79 _ rfl p (k * 65) rfl (wc x) _ (unhide HR) Try.underlying79 rfl (by rw [unhide HXL]; exact size79) ?_)
              | (guard_target =~ wpList _ _ _ _ _ _; refine wpList_alloc_z 79 z79 rfl rfl zero79 ?_)
              | (guard_target =~ wpList _ _ _ _ _ _; refine wpList_store_new _ _ 79 z79.toArray (wc x) rfl rfl rfl rfl (by rw [unhide HXL]; exact size79) (by rw [unhide HXL]; simp [z79_len]) (wc_one _) rfl ?_)
              | (guard_target =~ wpList _ _ _ _ _ _; refine wpList_load_mid rfl 79 _ rfl wr.heap.size 0 rfl (wc x) _ (fun j v hv => by rw [Nat.zero_add, (unhide HNW).cell]; simpa using hv) Try.underlying79 rfl (by rw [unhide HXL]; exact size79) ?_))
            refine ⟨⟨k + 1, by omega, by simp, ?_, ?_⟩, by simp [intOf]; omega⟩
            · rw [unhide HE]; exact unhide HD2
            · exact unhide HKW
        · have t3 : ((k : Int) < (M : Int)) = False := by simp; omega
          have hkv : keep.getD k false = false := by
            have : keep.length ≤ k := by rw [unhide HM]; omega
            simp [List.getElem?_eq_none this]
          have HE : Hid (crashF keep torn (cutN cut) 0 (d.pend.take (k + 1)) d.safe = crashF keep torn (cutN cut) 0 (d.pend.take k) d.safe) := by
            have := unhide HSN
            rw [crash1, if_neg hkt, if_neg (by rw [hkv]; simp)] at this
            exact this
          have HD2 := hide hda
          clear hr hxo hd hkp hka hx hpg hpl2 HSN hkt hda hvw hvc hvl hkv q2 q3 hkM
          go_wp2_with (first
            | (guard_target =~ wpList _ _ _ _ _ _; refine wpList_load_mid rfl 79 _ rfl p (k * 65) rfl (wc x) _ (unhide HR) Try.underlying79 rfl (by rw [unhide HXL]; exact size79) ?_)
            | (guard_target =~ wpList _ _ _ _ _ _; refine wpList_alloc_z 79 z79 rfl rfl zero79 ?_)
            | (guard_target =~ wpList _ _ _ _ _ _; refine wpList_store_new _ _ 79 z79.toArray (wc x) rfl rfl rfl rfl (by rw [unhide HXL]; exact size79) (by rw [unhide HXL]; simp [z79_len]) (wc_one _) rfl ?_)
            | (guard_target =~ wpList _ _ _ _ _ _; refine wpList_load_mid rfl 79 _ rfl wr.heap.size 0 rfl (wc x) _ (fun j v hv => by rw [Nat.zero_add, (unhide HNW).cell]; simpa using hv) Try.underlying79 rfl (by rw [unhide HXL]; exact size79) ?_))
          refine ⟨⟨k + 1, by omega, by simp, ?_, ?_⟩, by simp [intOf]; omega⟩
          · rw [unhide HE]; exact unhide HD2
          · exact unhide HKW
    · obtain rfl : k = L := by omega
      have hfull : d.pend.take k = d.pend := by rw [← unhide HL, List.take_length]
      rw [hfull] at hd
      have c1' := (dp_cells hd).2.1
      have f1 := hd.head.frozen 1
      have hn := hd.noPend
      have hk1 : Kept [b, g] w (wr.setCell ⟨b, 1, none⟩ (.slice none 0 0)) := (hkp.mono (G := [b, g]) (fun x hx => by simp at hx; subst hx; simp)).setCell (p := ⟨b, 1, none⟩) (Or.inl (by simp)) _
      have hsz := hk1.size
      have hdk : Dk (wr.setCell ⟨b, 1, none⟩ (.slice none 0 0)) b F { d with safe := crashF keep torn (cutN cut) 0 d.pend d.safe, pend := [] } := ⟨g, none, 0, hn, (unhide HFF).1, (unhide HFF).2.1, fun p hp => (by cases hp), fun x hx => Nat.lt_of_lt_of_le ((unhide HFF).2.2 x hx) hsz⟩
      have HB := hide (fuse_any hdk (-1) (by omega))
      have HK1 := hide hk1
      clear hn hd hkp hk1 hdk hfull hsz
      go_wp2_with (first
        | (go_at_call 18; refine (unhide HB).mono ?_; rintro e w2 ⟨rfl, hd2, hk2⟩; have HD2 := hide hd2; have HK3 := hide hk2; clear HB hd2 hk2))
      refine bodyPost_end (results_none rfl _ _ _) rfl ?_
      refine ⟨rfl, unhide HD2, ?_⟩
      have hkf : Kept F w (wr.setCell ⟨b, 1, none⟩ (.slice none 0 0)) := (unhide HK1).mono (fun x hx => by simp at hx; rcases hx with rfl | rfl; exact Or.inl (unhide HFF).1; exact Or.inl (unhide HFF).2.1)
      exact ⟨hkf.trans (unhide HK3).kept (fun x hx => Or.inl hx), fun x hx => Or.inl hx⟩
theorem crash_any {w : World} {b : Nat} {F : List Nat} {d : Dm} (h : Dk w b F d) (hpl : d.pend.length ≤ 9223372036854775807) {v : Value} {keep : List Bool} (hv : SeesB w v keep) (hvF : ∀ k, v.ownBlock = some k → k ∉ F) (torn cut : Int) :
    Calls Try.prog 25 #[.pointer (some ⟨b, 0, none⟩), v, .int .i64 torn, .int .i64 cut] w fun e w' => e = .returned (.tuple #[]) ∧ Dk w' b F (d.crash keep torn cut) ∧ Nx F w F w' := crash_anyO h hpl hv (Or.inr hvF) torn cut
end Go.Proofs.Ytfaoblnghkiibaa
