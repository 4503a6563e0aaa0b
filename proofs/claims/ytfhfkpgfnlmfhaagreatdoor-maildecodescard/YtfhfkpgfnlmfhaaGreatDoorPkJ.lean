/- Texts laid one behind the other: RrealB Rraw Rtext. -/
import Derived.Test.YtfhfkpgfnlmfhaaGreatDoorPkH
import Derived.Test.YtfhfkpgfnlmfhaaGreatDoorPkI
/- The reader's Real: its face. -/
namespace Go.Proofs.YtfhfkpgfnlmfhaaGreatDoor
open Go.RowKit

theorem of8_lt (x0 x1 x2 x3 x4 x5 x6 x7 : Nat) (h : ∀ x ∈ [x0, x1, x2, x3, x4, x5, x6, x7], x < 256) : of8 [x0, x1, x2, x3, x4, x5, x6, x7] < 18446744073709551616 := by
  simp only [List.forall_mem_cons, List.not_mem_nil, false_implies, implies_true, and_true] at h
  unfold of8; simp only [List.foldl]; omega

end Go.Proofs.YtfhfkpgfnlmfhaaGreatDoor

/- The reader's Raw and Text. -/
namespace Go.Proofs.YtfhfkpgfnlmfhaaGreatDoor
open Go.RowKit

theorem en113 (a : Array Value) (w : World) : (callFunc 118 a).run Tryz.prog w = .ok (.enter 118 a) w := by kernel_rfl

/-- Behind a reading that ended well and laid bytes into the variable q: they are in memory of their own, made since the world had h0 blocks. -/
def TakenB (b q h0 : Nat) (lv bv : Value) (rest bs : List Nat) (w w' : World) : Prop :=
  (∃ lv', Rd w' b lv' bv rest ∧ lv'.ownBlock = lv.ownBlock) ∧ (∃ a cap, Blk w' q #[.slice a bs.length cap] 22 ∧ w'.ownsRow h0 5 1 (.slice a bs.length cap) bs.length (u8s bs)) ∧ Kept [b, q] w w'

theorem TakenB.mono {b q h0 : Nat} {lv bv : Value} {rest bs : List Nat} {W w3 w' : World} (k : Kept [] W w3) (h : TakenB b q h0 lv bv rest bs w3 w') : TakenB b q h0 lv bv rest bs W w' :=
  ⟨h.1, h.2.1, (k.mono (by simp)).trans h.2.2 (fun _ hx => Or.inl hx)⟩

/-- The end of the closures of Raw and Text: the bytes that were cut are cloned and stored. -/
theorem taken_fin {w w1 w2 : World} {b q h0 : Nat} {lv lv' bv z : Value} {l bs : List Nat} {ca : Option Addr} {cc : Nat} (hq : Blk w q #[z] 22) (hqb : q ≠ b) (hql : lv.ownBlock ≠ some q) (hh : h0 ≤ w.heap.size) (hqh : q < h0 ∨ w.heap.size ≤ q ∨ q < w.heap.size)
    (hrd : Rd w1 b lv' bv l) (ho : lv'.ownBlock = lv.ownBlock) (hk : Kept [b] w w1) (hfo : w2.ownsRow w1.heap.size 5 1 (.slice ca bs.length cc) bs.length (u8s bs)) (hk2 : Kept [] w1 w2) :
    TakenB b q h0 lv bv l bs w (w2.setCell ⟨q, 0, none⟩ (.slice ca bs.length cc)) := by
  have hqlt := hq.lt
  have hks := hk.size
  have hq2 : Blk w2 q #[z] 22 := (hq.kept hk (by simpa using hqb)).kept hk2 (by simp)
  have kset : Kept [q] w2 (w2.setCell ⟨q, 0, none⟩ (.slice ca bs.length cc)) := (Kept.refl [q] _).setCell (Or.inl (by simp)) _
  refine ⟨⟨lv', (hrd.kept hk2 (by simp) (by simp)).kept kset (by simp; exact fun e => hqb e.symm) (fun x hx => by simp; intro e; subst e; exact hql (by rw [← ho]; exact hx)), ho⟩, ⟨ca, cc, by simpa using hq2.set 0 _, ?_⟩, ?_⟩
  · refine own_base (own_kept hfo kset (fun k hk' => ?_)) (fun k hk' => ?_)
    · have := (hfo.lt k hk').1; simp; omega
    · have := (hfo.lt k hk').1; omega
  · exact ((hk.trans hk2 (by simp)).mono (fun x hx => Or.inl (by simp at hx; simp [hx]))).setCell (Or.inl (by simp)) _

/-- The three blocks that the faces of Raw and Text lay. -/
def W3 (w : World) (b : Nat) (n : Int) : World := ((w.alloc (.cells #[.pointer (some ⟨b, 0, none⟩)] 40)).alloc (.cells #[.int .i64 n] 3)).alloc (.cells #[.slice none 0 0] 22)

theorem W3_facts (w : World) (b : Nat) (n : Int) : Kept [] w (W3 w b n) ∧ (W3 w b n).heap.size = w.heap.size + 3 ∧ Blk (W3 w b n) w.heap.size #[.pointer (some ⟨b, 0, none⟩)] 40 ∧ Blk (W3 w b n) (w.heap.size + 1) #[.int .i64 n] 3 ∧ Blk (W3 w b n) (w.heap.size + 2) #[.slice none 0 0] 22 := by
  unfold W3
  refine ⟨(((Kept.refl [] w).alloc _).alloc _).alloc _, by simp, ((Blk.new _ _ _).alloc _).alloc _, ?_, ?_⟩
  · have := (Blk.new (w.alloc (.cells #[.pointer (some ⟨b, 0, none⟩)] 40)) #[.int .i64 n] 3).alloc (.cells #[.slice none 0 0] 22)
    simpa using this
  · have := Blk.new ((w.alloc (.cells #[.pointer (some ⟨b, 0, none⟩)] 40)).alloc (.cells #[.int .i64 n] 3)) #[.slice none 0 0] 22
    simpa using this

end Go.Proofs.YtfhfkpgfnlmfhaaGreatDoor

/- The reader's Text. -/
namespace Go.Proofs.YtfhfkpgfnlmfhaaGreatDoor
open Go.RowKit

set_option maxRecDepth 100000 in
set_option maxHeartbeats 400000 in
theorem clos_text_ok {w : World} {b : Nat} {lv bv : Value} {l r : List Nat} (h : Rd w b lv bv l) (hl : ∀ x ∈ l, x < 256) (n : Nat) (most : Int) (hm9 : most ≤ 9223372036854775807) (pn pr q h0 : Nat) (z : Value) (hpn : w.cell? ⟨pn, 0, none⟩ = some (.int .i64 most)) (hpr : w.cell? ⟨pr, 0, none⟩ = some (.pointer (some ⟨b, 0, none⟩)))
    (hnb : pn ≠ b) (hrb : pr ≠ b) (hq : Blk w q #[z] 22) (hqb : q ≠ b) (hql : lv.ownBlock ≠ some q) (hh : h0 ≤ w.heap.size) (hr : readNum 0 0 l = .inr (n, r)) (hn : n ≤ most.toNat) (hnr : n ≤ r.length) :
    Calls Tryz.prog 118 #[.pointer (some ⟨pr, 0, none⟩), .pointer (some ⟨pn, 0, none⟩), .pointer (some ⟨q, 0, none⟩)] w fun e w' => e = .returned (.tuple #[]) ∧ TakenB b q h0 lv bv (r.drop n) (r.take n) w w' := by
  have HC := hide (number_any h hl)
  have hn64 := (readNum_lt l 0 0 (by omega) (by simp) hl hr).1
  have hbl := h.bl
  have hrl := (readNum_lt l 0 0 (by omega) (by simp) hl hr).2.2
  have htl : (r.take n).length = n := by simp; omega
  have HTL := hide htl
  have HQ := hide hq
  have HR := hide hr
  have hqlt := hq.lt
  have hpnl := World.block_lt_of_cell? w ⟨pn, 0, none⟩ hpn
  have hprl := World.block_lt_of_cell? w ⟨pr, 0, none⟩ hpr
  obtain ⟨m, hmax⟩ : ∃ m : Nat, (most = m ∨ (most < 0 ∧ m = 0)) ∧ n ≤ m ∧ m ≤ 9223372036854775807 := by
    by_cases h0 : 0 ≤ most
    · exact ⟨most.toNat, Or.inl (by omega), hn, by omega⟩
    · exact ⟨0, Or.inr ⟨by omega, rfl⟩, by omega, by omega⟩
  obtain ⟨hmm, hnm, hm63⟩ := hmax
  have gd : decide (m < n) = false := by simp; omega
  clear h hl hq htl hr hn
  rcases hmm with rfl | ⟨hneg, rfl⟩
  all_goals
    go_enter Tryz.func118, Tryz.ntmps118
    go_wp2_with fail
    refine (unhide HC).mono ?_
    rintro e w1 ⟨g1, _, hk1⟩
    obtain ⟨rfl, lv1, hrd1, ho1⟩ := g1 n r (unhide HR)
    have hpn1 := (hk1.cell (p := ⟨pn, 0, none⟩) hpnl (by simpa using hnb)).trans hpn
    have hpr1 := (hk1.cell (p := ⟨pr, 0, none⟩) hprl (by simpa using hrb)).trans hpr
    have HC2 := hide (cut_ok hrd1 n hnr)
    have HK1 := hide hk1
    have HO1 := hide ho1
    clear g1 hrd1 ho1 hk1
    go_wp2_with (first | (go_at_call 42; refine (refuse_no _ _).mono ?_; rintro e w'' ⟨rfl, rfl⟩))
    refine (unhide HC2).mono ?_
    rintro e w2 ⟨a, cap, rfl, hs, hao, lv', hrd, ho, hk⟩
    have HK : Hid (Kept [b] w w2) := hide ((unhide HK1).trans hk (fun x hx => Or.inl hx))
    have HQ1 := hide ((unhide HQ).kept (unhide HK) (by simpa using hqb))
    have HS := hide hs
    have HRD := hide hrd
    have HO := hide (ho.trans (unhide HO1))
    clear hs hk hrd ho hao
    go_wp2_with fail
    refine (clone_any (unhide HS) (by rw [unhide HTL]; omega)).mono ?_
    rintro e w3 ⟨ca, cc, rfl, hfo, hk2⟩
    have hq2 := (unhide HQ1).kept hk2 (by simp)
    have hc2 := blk1 hq2
    have hf2 := hq2.frozen 0
    have HF := hide (taken_fin (h0 := h0) (unhide HQ) hqb hql hh (Or.inr (Or.inr hqlt)) (unhide HRD) (unhide HO) (unhide HK) hfo hk2)
    rw [unhide HTL] at HF ⊢
    clear hq2 hfo hk2
    go_wp2
    go_end0
    exact ⟨rfl, unhide HF⟩

set_option maxRecDepth 100000 in
set_option maxHeartbeats 400000 in
theorem clos_text_err {w : World} {b : Nat} {lv bv : Value} {l : List Nat} (h : Rd w b lv bv l) (hl : ∀ x ∈ l, x < 256) (most : Int) (hm9 : most ≤ 9223372036854775807) (pn pr q c : Nat) (hpn : w.cell? ⟨pn, 0, none⟩ = some (.int .i64 most)) (hpr : w.cell? ⟨pr, 0, none⟩ = some (.pointer (some ⟨b, 0, none⟩)))
    (hnb : pn ≠ b) (hrb : pr ≠ b) (hr : readNum 0 0 l = .inl c ∨ ∃ n r, readNum 0 0 l = .inr (n, r) ∧ ((most.toNat < n ∧ c = 11) ∨ (n ≤ most.toNat ∧ r.length < n ∧ c = 10))) :
    Calls Tryz.prog 118 #[.pointer (some ⟨pr, 0, none⟩), .pointer (some ⟨pn, 0, none⟩), .pointer (some ⟨q, 0, none⟩)] w fun e w' => Faulty e c ∧ (∃ lv' l', Rd w' b lv' bv l') ∧ Kept [b] w w' := by
  have HC := hide (number_any h hl)
  have hpnl := World.block_lt_of_cell? w ⟨pn, 0, none⟩ hpn
  have hprl := World.block_lt_of_cell? w ⟨pr, 0, none⟩ hpr
  rcases hr with hr | ⟨n, r, hr, hcase⟩
  · have HR := hide hr
    clear h hl hr
    go_enter Tryz.func118, Tryz.ntmps118
    go_wp2_with fail
    refine (unhide HC).mono ?_
    rintro e w1 ⟨_, g1, hk⟩
    obtain ⟨⟨u, pv, rfl, hu⟩, hrd⟩ := g1 c (unhide HR)
    clear g1
    go_wp2
    exact ⟨rfl, ⟨u, pv, rfl, hu⟩, hrd, hk⟩
  · have hn64 := (readNum_lt l 0 0 (by omega) (by simp) hl hr).1
    have HR := hide hr
    obtain ⟨m, hmm, hm63, hmt⟩ : ∃ m : Nat, (most = m ∨ (most < 0 ∧ m = 0)) ∧ m ≤ 9223372036854775807 ∧ most.toNat = m := by
      by_cases h0 : 0 ≤ most
      · exact ⟨most.toNat, Or.inl (by omega), by omega, rfl⟩
      · exact ⟨0, Or.inr ⟨by omega, rfl⟩, by omega, by omega⟩
    rw [hmt] at hcase
    clear h hl hr hmt
    rcases hcase with ⟨hc, rfl⟩ | ⟨hc, hc2, rfl⟩
    · have gd : decide (m < n) = true := by simp; omega
      rcases hmm with rfl | ⟨hneg, rfl⟩
      all_goals
        go_enter Tryz.func118, Tryz.ntmps118
        go_wp2_with fail
        refine (unhide HC).mono ?_
        rintro e w1 ⟨g1, _, hk1⟩
        obtain ⟨rfl, lv1, hrd1, ho1⟩ := g1 n r (unhide HR)
        have hpn1 := (hk1.cell (p := ⟨pn, 0, none⟩) hpnl (by simpa using hnb)).trans hpn
        have HRD := hide hrd1
        have HK := hide hk1
        clear g1 hrd1 ho1 hk1
        go_wp2_with (first | (go_at_call 42; refine (refuse_yes _ _).mono ?_; rintro e w'' ⟨rfl, rfl⟩))
        exact ⟨rfl, ⟨26, _, rfl, Or.inr ⟨rfl, rfl⟩⟩, ⟨_, _, unhide HRD⟩, unhide HK⟩
    · have gd : decide (m < n) = false := by simp; omega
      rcases hmm with rfl | ⟨hneg, rfl⟩
      all_goals
        go_enter Tryz.func118, Tryz.ntmps118
        go_wp2_with fail
        refine (unhide HC).mono ?_
        rintro e w1 ⟨g1, _, hk1⟩
        obtain ⟨rfl, lv1, hrd1, ho1⟩ := g1 n r (unhide HR)
        have hpn1 := (hk1.cell (p := ⟨pn, 0, none⟩) hpnl (by simpa using hnb)).trans hpn
        have hpr1 := (hk1.cell (p := ⟨pr, 0, none⟩) hprl (by simpa using hrb)).trans hpr
        have HC2 := hide (cut_end hrd1 n (by omega))
        have HRD := hide hrd1
        have HK := hide hk1
        clear g1 hrd1 ho1 hk1
        go_wp2_with (first | (go_at_call 42; refine (refuse_no _ _).mono ?_; rintro e w'' ⟨rfl, rfl⟩))
        refine (unhide HC2).mono ?_
        rintro e w2 ⟨⟨pv, rfl⟩, hq⟩
        go_wp2
        exact ⟨rfl, ⟨8, pv, rfl, Or.inl ⟨rfl, rfl⟩⟩, ⟨_, _, (unhide HRD).kept hq.kept (by simp) (by simp)⟩, (unhide HK).trans hq.kept (by simp)⟩

set_option maxRecDepth 100000 in
set_option maxHeartbeats 400000 in
theorem rtext_ok {w : World} {b : Nat} {lv bv : Value} {l r : List Nat} (h : Rd w b lv bv l) (hl : ∀ x ∈ l, x < 256) (n : Nat) (most : Int) (hm9 : most ≤ 9223372036854775807) (hr : readNum 0 0 l = .inr (n, r)) (hn : n ≤ most.toNat) (hnr : n ≤ r.length) :
    Calls Tryz.prog 114 #[.pointer (some ⟨b, 0, none⟩), .int .i64 most] w fun e w' => ∃ a cap, e = .returned (.slice a n cap) ∧ w'.ownsRow w.heap.size 5 1 (.slice a n cap) (r.take n).length (u8s (r.take n)) ∧ (∃ lv', Rd w' b lv' bv (r.drop n) ∧ lv'.ownBlock = lv.ownBlock) ∧ Kept [b] w w' := by
  have hmf : ∀ (fn : Fn) (first cap : Array Value) (w : World), (Instr.makeFunc fn first cap).run Tryz.prog w = .ok (.func fn first cap) w := fun _ _ _ _ => rfl
  obtain ⟨k0, hsz, b1, b2, b3⟩ := W3_facts w b most
  obtain ⟨hb, hlo⟩ := rd_lt h
  have htl : (r.take n).length = n := by simp; omega
  have hface : Calls Tryz.prog 40 #[.pointer (some ⟨b, 0, none⟩), .func (.func 118) #[] #[.pointer (some ⟨w.heap.size, 0, none⟩), .pointer (some ⟨w.heap.size + 1, 0, none⟩), .pointer (some ⟨w.heap.size + 2, 0, none⟩)]] (W3 w b most)
      fun e w' => e = .returned (.tuple #[]) ∧ TakenB b (w.heap.size + 2) w.heap.size lv bv (r.drop n) (r.take n) (W3 w b most) w' := by
    refine face_ok (h.kept k0 (by simp) (by simp)) _ (en113 _) (TakenB b (w.heap.size + 2) w.heap.size lv bv (r.drop n) (r.take n)) (fun _ _ => TakenB.mono) ?_
    intro w3 k3
    have := k3.size
    exact clos_text_ok ((h.kept k0 (by simp) (by simp)).kept k3 (by simp) (by simp)) hl n most hm9 _ _ _ _ _ (blk1 (b2.kept k3 (by simp))) (blk1 (b1.kept k3 (by simp))) (by omega) (by omega) (b3.kept k3 (by simp)) (by omega) (fun e => by have := hlo _ e; omega) (by omega) hr hn hnr
  have HF := hide hface
  have HTL := hide htl
  have HK0 := hide k0
  clear hface h b1 b2 b3 htl k0 hsz hl hr hn
  unfold W3 at HF HK0
  go_enter Tryz.func114, Tryz.ntmps114
  go_wp2_with fail
  refine (unhide HF).mono ?_
  rintro e w1 ⟨rfl, hrd, ⟨a, cap, hq, ho⟩, hk⟩
  rw [unhide HTL] at hq
  have hc := blk1 hq
  have HO := hide ho
  clear hq ho
  go_wp2
  go_ret
  refine ⟨a, cap, rfl, ?_, hrd, ?_⟩
  · have := unhide HO; rwa [unhide HTL] at this ⊢
  · exact ((unhide HK0).mono (by simp)).trans hk (fun x hx => by simp at hx; rcases hx with rfl | rfl; simp; right; omega)

set_option maxRecDepth 100000 in
set_option maxHeartbeats 400000 in
theorem rtext_err {w : World} {b : Nat} {lv bv : Value} {l : List Nat} (h : Rd w b lv bv l) (hl : ∀ x ∈ l, x < 256) (most : Int) (hm9 : most ≤ 9223372036854775807) (c : Nat) (hr : readNum 0 0 l = .inl c ∨ ∃ n r, readNum 0 0 l = .inr (n, r) ∧ ((most.toNat < n ∧ c = 11) ∨ (n ≤ most.toNat ∧ r.length < n ∧ c = 10))) :
    Calls Tryz.prog 114 #[.pointer (some ⟨b, 0, none⟩), .int .i64 most] w fun e w' => e = .returned (.slice none 0 0) ∧ RdF w' b c ∧ Kept [b] w w' := by
  have hmf : ∀ (fn : Fn) (first cap : Array Value) (w : World), (Instr.makeFunc fn first cap).run Tryz.prog w = .ok (.func fn first cap) w := fun _ _ _ _ => rfl
  obtain ⟨k0, hsz, b1, b2, b3⟩ := W3_facts w b most
  obtain ⟨hb, hlo⟩ := rd_lt h
  have hface : Calls Tryz.prog 40 #[.pointer (some ⟨b, 0, none⟩), .func (.func 118) #[] #[.pointer (some ⟨w.heap.size, 0, none⟩), .pointer (some ⟨w.heap.size + 1, 0, none⟩), .pointer (some ⟨w.heap.size + 2, 0, none⟩)]] (W3 w b most)
      fun e w' => e = .returned (.tuple #[]) ∧ RdF w' b c ∧ Blk w' (w.heap.size + 2) #[.slice none 0 0] 22 ∧ Kept [b] (W3 w b most) w' := by
    refine (face_err (h.kept k0 (by simp) (by simp)) _ c (en113 _) ?_).mono ?_
    · intro w3 k3
      exact clos_text_err ((h.kept k0 (by simp) (by simp)).kept k3 (by simp) (by simp)) hl most hm9 _ _ _ c (blk1 (b2.kept k3 (by simp))) (blk1 (b1.kept k3 (by simp))) (by omega) (by omega) hr
    · rintro e w' ⟨rfl, g1, g2⟩
      exact ⟨rfl, g1, b3.kept g2 (by simp; omega), g2⟩
  have HF := hide hface
  have HK0 := hide k0
  clear hface h b1 b2 b3 k0 hsz hl hr
  unfold W3 at HF HK0
  go_enter Tryz.func114, Tryz.ntmps114
  go_wp2_with fail
  refine (unhide HF).mono ?_
  rintro e w1 ⟨rfl, hrd, hq, hk⟩
  have hc := blk1 hq
  have HR := hide hrd
  clear hq hrd
  go_wp2
  go_ret
  exact ⟨rfl, unhide HR, ((unhide HK0).mono (by simp)).trans hk (fun x hx => Or.inl hx)⟩
end Go.Proofs.YtfhfkpgfnlmfhaaGreatDoor
