/- The reader's Leave; Enter where it is refused. -/
import Derived.Test.YtiabhgkndejigabLeaveF
import Derived.Deep.DeepCutAuto
namespace Go.Proofs.Ytiabhgkndejigab
open Go.RowKit

theorem en116' (a : Array Value) (w : World) : (callFunc 60 a).run Try.prog w = .ok (.enter 60 a) w := by kernel_rfl

set_option maxRecDepth 100000 in
set_option maxHeartbeats 4000000 in
theorem clos_leave_ok {w : World} {b : Nat} {lv bv : Value} {hs : List Value} {behind : List (List Nat)} {D : Option Nat} (h : Rf w b lv bv hs [] behind D) (p : Nat)
    (hp : w.cell? ⟨p, 0, none⟩ = some (.pointer (some ⟨b, 0, none⟩))) (hpb : p ≠ b) (hpos : 0 < behind.length) :
    Calls Try.prog 60 #[.pointer (some ⟨p, 0, none⟩)] w fun e w' => e = .returned (.tuple #[]) ∧ (∃ lv' bv' hs', Rf w' b lv' bv' hs' (behind.getD (behind.length - 1) []) behind.dropLast D ∧ bv'.ownBlock = bv.ownBlock) ∧ Kept [b] w w' := by
  have HH := hide h
  have hlen := h.hl
  have hh : 0 < hs.length := by omega
  have h16 := h.h16
  obtain ⟨c0, c1, c2⟩ := blk3 h.rd.blk
  obtain ⟨la, lc, hlv⟩ := sees_len h.rd.see
  rw [hlv] at c0
  obtain ⟨gs, bc, hbv⟩ : ∃ gs bc, bv = .slice (some ⟨gs, 0, none⟩) hs.length bc := by
    rcases h.own.2 with ⟨_, h2⟩ | ⟨g', cap', cur, hv, _⟩
    · omega
    · exact ⟨_, _, hv⟩
  rw [hbv] at c1
  have hbc : hs.length ≤ bc := by
    have := h.own.2
    rw [hbv] at this
    rcases this with ⟨h1, _⟩ | ⟨g', cap', cur, hv, _, _, hc, _⟩
    · cases h1
    · cases hv; exact hc
  obtain ⟨xa, xc, hx⟩ := sees_len (h.see (hs.length - 1) (by omega))
  generalize hXL : (behind.getD (hs.length - 1) []).length = XL at hx
  have hcl : w.cell? ⟨gs, hs.length - 1, none⟩ = some (.slice xa XL xc) := by
    have ho := h.own
    rw [hbv] at ho
    have := ho.cells (g := gs) rfl (hs.length - 1) (.slice xa XL xc) (by
      rw [← hx]; simp [List.getD, List.getElem?_eq_getElem (show hs.length - 1 < hs.length by omega)])
    have hadd : (⟨gs, 0, none⟩ : Addr).add (hs.length - 1) = ⟨gs, hs.length - 1, none⟩ := by unfold Addr.add; split <;> simp_all
    rwa [hadd] at this
  have f0 := h.rd.blk.frozen 0
  have f1 := h.rd.blk.frozen 1
  have hne0 : ((hs.length : Int) == 0) = false := by rw [beq_eq_false_iff_ne]; omega
  have HFIN := hide (leave_fin h hh hbv)
  rw [hx] at HFIN
  have hbl := h.rd.blk.lt
  have hgsb : gs ≠ b := fun e => h.n2 (by rw [hbv, ← e]; rfl)
  have HLEN := hide hlen
  have HBV := hide hbv
  have hg1 : (0 : Int) ≤ (hs.length : Int) - 1 := by omega
  have hg2 : (hs.length : Int) - 1 < (hs.length : Int) := by omega
  have hg3 : ((hs.length : Int) - 1).toNat = hs.length - 1 := by omega
  have hg4 : (hs.length : Int) - 1 ≤ (bc : Int) := by omega
  have h16' : hs.length ≤ 16 := by omega
  clear h hlen hlv hbv hx hXL hpos h16
  go_enter Try.func60, Try.ntmps60
  go_wp2_with (first | (go_at_call 57; refine (refuse_no _ _).mono ?_; rintro e w'' ⟨rfl, rfl⟩))
  go_region
  all_goals go_wp2_with fail
  go_region
  all_goals go_wp2_with fail
  all_goals go_end0
  all_goals
    have hF := (unhide HFIN).kept ((Kept.refl [] _).drew.drew) (by simp)
    rw [unhide HLEN] at hF
    exact ⟨rfl, ⟨_, _, _, by rw [unhide HLEN]; exact hF, by rw [unhide HBV]; rfl⟩, (((Kept.refl [b] w).setCell (Or.inl (by simp)) _).setCell (Or.inl (by simp)) _).drew.drew⟩
end Go.Proofs.Ytiabhgkndejigab
