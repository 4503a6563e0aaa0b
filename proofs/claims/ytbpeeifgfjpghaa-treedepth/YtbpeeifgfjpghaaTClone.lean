/- A trail copied. -/
import Derived.Test.YtbpeeifgfjpghaaTLay
namespace Go.Proofs.Ytbpeeifgfjpghaa
open Go.RowKit
set_option linter.unusedVariables false

set_option maxRecDepth 100000 in
set_option maxHeartbeats 1000000 in
theorem clone_any {b0 : Nat} {w : World} {v : Value} {s : List TI} (hv : NRow b0 w v s) (hl : s.length ≤ 8796093022208) :
    Calls Try.prog 97 #[v] w fun e w' => ∃ v', e = .returned v' ∧ NRow w.heap.size w' v' s ∧ Kept [] w w' := by
  obtain ⟨qs, h1, h2⟩ := hv
  rcases h2.2 with ⟨rfl, e2⟩ | ⟨g, cap, cur, rfl, hg, hh, hc, hm, hcs, htake⟩
  · have hs : s = [] := List.eq_nil_of_length_eq_zero e2
    subst hs
    cases qs with
    | cons a b => exact h1.elim
    | nil =>
      clear h1 h2 e2 hl
      have hnil := fun (W : World) => Lib.run_eql_slice_nil (P := Try.prog) W 113 97 none 0 0 0 0 Try.underlying113
      go_enter Try.func97, Try.ntmps97
      go_wp2
      go_ret
      exact ⟨_, rfl, ⟨[], trivial, ⟨by simp, Or.inl ⟨rfl, rfl⟩⟩⟩, Kept.refl _ _⟩
  · have hka : Kept [] w (w.alloc (.cells #[] 97)) := (Kept.refl [] w).alloc _
    have HV1 : Hid (NRow w.heap.size (w.alloc (.cells #[] 97)) (.slice (some ⟨w.heap.size, 0, none⟩) 0 0) []) := ⟨[], trivial, ⟨by simp, Or.inr ⟨w.heap.size, 0, #[], rfl, Nat.le_refl _, Blk.new _ _ _, by simp, by unfold maxLen; omega, by simp, by simp⟩⟩⟩
    have hlen := h1.length
    have HB1 : Hid (∀ j q, qs[j]? = some q → (w.alloc (.cells #[] 97)).cell? ⟨g, j, none⟩ = some (.pointer q)) := by
      intro j q hj
      have hjl : j < s.length := by have := (List.getElem?_eq_some_iff.1 hj).1; omega
      have := h2.cells (g := g) rfl j (.pointer q) (by simp [hj])
      have hadd : (⟨g, 0, none⟩ : Addr).add j = ⟨g, j, none⟩ := by unfold Addr.add; split <;> simp_all
      rw [hadd] at this
      exact hka.cell' this
    have HT1 : Hid (AllN (w.alloc (.cells #[] 97)) qs s) := h1.imp (fun _ _ hx => hx.kept hka)
    have HL1 : Hid (([] : List TI).length + s.length ≤ 17592186044416) := by show ([] : List TI).length + s.length ≤ 17592186044416; simp; omega
    have HM1 : Hid (qs.length = s.length) := hlen
    have hbz : w.heap.size ≤ (w.alloc (.cells #[] 97)).heap.size := by simp
    obtain ⟨SL, hSL⟩ : ∃ SL, s.length = SL := ⟨_, rfl⟩
    rw [hSL] at HL1 HM1 hc ⊢
    clear h1 h2 hh hcs htake hlen
    have hnil := fun (W : World) => Lib.run_eql_slice_nil (P := Try.prog) W 113 97 (some ⟨g, 0, none⟩) SL cap 0 0 Try.underlying113
    go_enter Try.func97, Try.ntmps97
    go_wp2_with (first
      | (at_builtin; refine wpList_append_nodes _ rfl _ _ rfl rfl hbz HV1 rfl HB1 HM1 HT1 HL1 ?_; intro va' n' vc' w2 HN2 HV2 HG2))
    go_ret
    refine ⟨_, rfl, by simpa using unhide HV2, ?_⟩
    have h3 := (GrowP.kept (B := w.heap.size) hka).trans (unhide HG2)
    exact h3.own (I := fun (_ : Unit) W => Kept [] w W) (fun _ X Y row hs hg hr => hs.grown hg (fun k hk => Or.inr (hr k hk).1)) (s := ()) (Kept.refl _ _)
end Go.Proofs.Ytbpeeifgfjpghaa
