/- A text of the base. -/
import Derived.Test.YtfhfkpgfnlmfhaaGreatDoorPkBT
import Derived.Test.YtfhfkpgfnlmfhaaGreatDoorPkBU
import Derived.Test.YtfhfkpgfnlmfhaaGreatDoorPkBM
/- MailDecodes: the walk. -/
namespace Go.Proofs.YtfhfkpgfnlmfhaaGreatDoor
open Go.RowKit
set_option linter.unusedSimpArgs false

theorem lent_parts {w : World} {base g n cap : Nat} {P : List Nat} (hn : P.length = n) (h : w.ownsRow base 5 1 (.slice (some ⟨g, 0, none⟩) (n + 2) cap) (n + 2) (u8s (P ++ [201, 77]))) :
    w.ownsRow base 5 1 (.slice (some ⟨g, 0, none⟩) n cap) n (u8s P) ∧ w.cell? ⟨g, n, none⟩ = some (.int .u8 201) ∧ w.cell? ⟨g, n + 1, none⟩ = some (.int .u8 77) := by
  have hc := h.cells (g := g) rfl
  have hadd : ∀ i, (⟨g, 0, none⟩ : Addr).add i = ⟨g, i, none⟩ := by intro i; unfold Addr.add; split <;> simp_all
  refine ⟨?_, ?_, ?_⟩
  · have := own_take (k := n) h (by omega)
    have e : (u8s (P ++ [201, 77])).take n = u8s P := by rw [u8s_append, List.take_append_of_le_length (by rw [u8s_length]; omega), List.take_of_length_le (by rw [u8s_length]; omega)]
    rw [e] at this
    exact this
  · rw [← hadd]; exact hc n _ (by subst hn; simp [u8s])
  · rw [← hadd]; exact hc (n + 1) _ (by subst hn; simp [u8s])
theorem kept_own {W : World} {base g cap : Nat} {P : List Nat} (hc : P.length + 2 ≤ cap) (ho : W.ownsRow base 5 1 (.slice (some ⟨g, 0, none⟩) (P.length + 2) cap) (P.length + 2) (u8s (P ++ [201, 77]))) (hl : P.length ≤ 140737488355326) {y : Value} (hy : Wide W y P) : Calls Tryz.prog 7 #[.slice (some ⟨g, 0, none⟩) P.length cap, y] W fun e w' => e = .returned (.bool true) ∧ Kept [] W w' :=
  (kept_yes rfl hl hc (Sees.of_own (lent_parts rfl ho).1) hy (lent_parts rfl ho).2.1 (lent_parts rfl ho).2.2).mono (by rintro e w' ⟨rfl, m, rfl⟩; exact ⟨rfl, (Kept.refl [] W).drewN m⟩)

set_option maxRecDepth 100000 in
set_option maxHeartbeats 3200000 in
theorem decodes_walk (w : World) (a : Option Addr) (cap : Nat) (bs : List Nat) (ht : Tab w) (h : Wide w (.slice a bs.length cap) bs) (hb : ∀ x ∈ bs, x < 256) (hl : bs.length ≤ 140737488355326) : Calls Tryz.prog 3 #[.slice a bs.length cap] w fun e w' => e = .returned (.bool true) ∧ Kept [] w w' := by
  obtain ⟨p, hp⟩ : ∃ p, decM bs = p := ⟨_, rfl⟩
  obtain ⟨c, hc⟩ : ∃ c, decE bs = c := ⟨_, rfl⟩
  have HRD : Hid (Calls Tryz.prog 4 #[.slice a bs.length cap] w fun e w' => ∃ l, e = .returned (.tuple #[.agg (mcc p l), .int .i64 (c : Nat)]) ∧ MW w' p l ∧ Kept [] w w') := by
    have := rdecode_any w _ bs ht h hb
    unfold RDcP at this
    rw [hp, hc] at this
    exact this
  have HPD : Hid (∀ (W : World) (x : Value), Kept [] w W → Wide W x bs → Calls Tryz.prog 6 #[x] W fun e w' => ∃ l, e = .returned (.tuple #[.agg (mcc p l), .int .i64 (c : Nat)]) ∧ MW w' p l ∧ Kept [] W w') := fun W x k hx => (decode_any W x bs (ht.kept k (by simp)) hx hb).mono (by
    rintro e w' ⟨hk, l, rfl, hn⟩
    have hm := hn.mw hb
    rw [hp] at hm
    exact ⟨l, by rw [hp, hc]; rfl, hm, hk⟩)
  have HW := hide h
  have HPL := hide hl
  clear ht h hb hl hp hc
  go_enter Tryz.func3, Tryz.ntmps3
  go_upto_region 2 with (first
    | (go_at_call 4; refine (unhide HRD).mono ?_; rintro e w1 ⟨l1, rfl, hm1, k1⟩; have HM1 := hide hm1; have HK1 := hide k1; clear hm1 k1 HRD)
    | (refine wpList_store_row rfl 30 _ _ rfl _ (mcc p l1) rfl rfl 30 _ (Blk.new w1 _ _) infoMail rfl (by simp [mcc, Value.oneCell']) ?_; refine world_at (R := fun Z => Blk Z w1.heap.size (mcc p l1) 30 ∧ Kept [] w1 Z) ⟨setRow_heap _ _ _ _ _ _ (Blk.new w1 _ _), ((Kept.refl [] w1).alloc _).setRow (Or.inr (Nat.le_refl _)) _⟩ ?_; rintro Z ⟨hzb, hzk⟩))
  generalize w1.heap.size = B1 at *
  have HB := hide hzb
  have HMZ := hide ((unhide HM1).kept hzk)
  have HKZ := hide ((unhide HK1).step hzk)
  clear hzb hzk HM1 HK1
  go_upto_region 3 with (go_at_call 5; refine (lent_any ((unhide HW).kept (unhide HKZ)) (unhide HPL)).mono ?_; rintro e w2 ⟨g, gc, rfl, hgc, ho, k2⟩; have HO := hide ho; have HGC := hide hgc; have HB2 := hide ((unhide HB).kept k2 (by simp)); have HM2 := hide ((unhide HMZ).kept k2); have HK2 := hide ((unhide HKZ).step k2); clear ho k2 hgc HB HMZ HKZ)
  go_upto_region 4 with (first
    | (go_at_call 6; refine (unhide HPD _ _ (unhide HK2) (Or.inl (Sees.of_own (lent_parts rfl (unhide HO)).1))).mono ?_; rintro e w3 ⟨l3, rfl, hm3, k3⟩; have HM3 := hide hm3; have HX3 := hide k3; clear hm3 k3 HPD)
    | (refine wpList_store_row rfl 30 _ _ rfl _ (mcc p l3) rfl rfl 30 _ (Blk.new w3 _ _) infoMail rfl (by simp [mcc, Value.oneCell']) ?_; refine world_at (R := fun Z => Blk Z w3.heap.size (mcc p l3) 30 ∧ Kept [] w3 Z) ⟨setRow_heap _ _ _ _ _ _ (Blk.new w3 _ _), ((Kept.refl [] w3).alloc _).setRow (Or.inr (Nat.le_refl _)) _⟩ ?_; rintro Y ⟨hyb, hyk⟩))
  generalize w3.heap.size = B3 at *
  have hx := (unhide HX3).step hyk
  have HB3 := hide hyb
  have HM3 := hide ((unhide HM3).kept hyk)
  have HB4 := hide ((unhide HB2).kept hx (by simp))
  have HM4 := hide ((unhide HM2).kept hx)
  have HK4 := hide ((unhide HK2).step hx)
  have HO4 := hide (own_kept (unhide HO) hx (by simp))
  clear hyb hyk hx HB2 HM2 HK2 HO HX3
  go_wp2_with (first
    | (go_at_call 7; refine (kept_own (unhide HGC) (unhide HO4) (unhide HPL) ((unhide HW).kept (unhide HK4))).mono ?_; rintro e w5 ⟨rfl, k5⟩; have HB5 := hide ((unhide HB3).kept k5 (by simp)); have HM5 := hide ((unhide HM3).kept k5); have HB6 := hide ((unhide HB4).kept k5 (by simp)); have HM6 := hide ((unhide HM4).kept k5); have HK5 := hide ((unhide HK4).step k5); clear k5 HB3 HM3 HB4 HM4 HO4)
    | (refine wpList_load_guard 30 _ rfl _ rfl 30 _ (0, 0) _ (unhide HB6) Tryz.underlying30 rfl infoMail rfl ?_)
    | (refine wpList_load_guard 30 _ rfl _ rfl 30 _ (0, 0) _ (unhide HB5) Tryz.underlying30 rfl infoMail rfl ?_)
    | (go_at_call 8; refine (same_mail (unhide HM6) (unhide HM5)).mono ?_; rintro e w7 ⟨rfl, k7⟩; have HK7 := hide ((unhide HK5).step k7); clear k7))
  all_goals
    go_ret
    exact ⟨rfl, unhide HK7⟩
end Go.Proofs.YtfhfkpgfnlmfhaaGreatDoor
