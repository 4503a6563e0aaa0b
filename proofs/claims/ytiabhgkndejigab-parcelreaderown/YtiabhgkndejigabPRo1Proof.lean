/- ParcelReaderOwn answers true for all rows of bytes. No condition. -/
import Derived.Test.YtiabhgkndejigabRows
import Derived.Test.YtiabhgkndejigabPOpR
import Derived.Test.YtiabhgkndejigabPRo
namespace Go.Proofs.Ytiabhgkndejigab.parcelReaderOwn
open Go.ChangeShapes Go.WideShapes Go.ChangeAt Go.RowKit
set_option linter.unusedVariables false

theorem own : ownKnob Try.prog.godebug = none := by kernel_rfl

set_option maxRecDepth 100000 in
theorem walk {w : World} {v0 : Value} {ps : List (List Nat)} (h0 : RowL w v0 ps) :
    Calls Try.prog 7 #[v0] w fun e w' => e = .returned (.bool true) ∧ Kept [] w w' := by
  by_cases hn : ps.length ≤ 1048576
  · exact readerOwn_walk h0 hn
  · obtain ⟨a0, c0, rfl, -⟩ := h0
    generalize ps.length = n at *
    have hbig' : ((1048576 : Int) < (n : Int)) = True := by simp; omega
    go_enter Try.func7, Try.ntmps7
    go_wp2
    go_ret
    exact ⟨rfl, Kept.refl _ _⟩

set_option maxRecDepth 100000 in
theorem lifted (os : Os) (started : os.Started) (H : Type) (enc : TypeId × Value → H) :
    ReturnsInHanded {} Try.checked os 7 .any (Rows.parcelReaderOwnSpec.pre6 enc Try.prog Try.f7 Rows.parcelReaderOwnRow.domain false) (Rows.parcelReaderOwnSpec.post enc Try.prog Try.f7 false true false false) := by
  refine returnsInHanded_of_change_sized (C := Try.checked) own started (by kernel_rfl) Try.func7
    (ChangeSpec.witness6 (enc := enc) (C := Try.checked) false ⟨#[], #[.slice none 0 0], []⟩ 8 (by kernel_rfl) (by kernel_rfl) (by kernel_rfl) (by kernel_rfl)) ?_
  intro W base args ds gs before hval0 hW hcnd hsz0 _
  have hval : ∀ (j : Nat) t v, Try.f7.params[j]? = some t → args[j]? = some v → Value.okWide Try.prog W .any base t v := hval0
  have hW' := hW
  obtain ⟨p, q, hA0, hV, rfl, hfz, hnd⟩ := hW
  have hA : DataW.TrodAll enc Try.prog W 0 (fun _ => true) true Try.f7.params.toList args.toList ds p := hA0
  rw [Try.params7] at hA hval
  obtain ⟨v0, vs0, d0, ds0, p0, q0, hargs, rfl, rfl, h0, r0⟩ := trodAll_cons hA
  obtain ⟨rfl, rfl, rfl⟩ := trodAll_nil r0
  obtain rfl : args = #[v0] := by cases args; simp_all
  obtain ⟨rfl, rfl⟩ := trodVars_none hV
  obtain ⟨a0, len0, cap0, rfl⟩ := okWide_slice Try.underlying58 (hval 0 58 v0 rfl rfl)
  have k0 := h0
  have lt0 : ∀ x ∈ p0, x.block < W.heap.size := by obtain ⟨m, hm⟩ := k0; exact DataW.trod_lt m _ _ _ hm
  obtain ⟨z0, w0⟩ : ∃ z, RowL W (.slice a0 len0 cap0) z := by
    obtain ⟨fuel, hf⟩ := h0
    obtain ⟨z, h1, _⟩ := open_rows (x := (d0, _)) (by simpa [Value.cells] using hf)
    exact ⟨z, h1⟩
  clear hA0 hval0
  refine (walk w0).mono fun e W' ⟨he, hk⟩ => ?_
  subst he
  have bel := hk.below _ (Nat.le_refl _) (by simp)
  exact ⟨_, rfl, _, _, _, [], _, [], hW', trodAll_mk1 (shut_bool Try.underlying4 _), (trodAll_cons_mk (Below.trod laidOut (by kernel_rfl) (of_decide_eq_true (by kernel_rfl)) k0 bel lt0) trodAll_mk0), rfl, bel.frame _, fun h => by cases h⟩

theorem over : Rows.parcelReaderOwnRow.holds Try.pinned (OpenSpec.ofChange Rows.parcelReaderOwnSpec) :=
  OpenClaim.holds_of_wide 7 Try.f7 rfl rfl rfl rfl rfl rfl rfl ⟨rfl, rfl, rfl, rfl, rfl⟩ rfl rfl rfl rfl rfl (by kernel_rfl) Try.func7 (by kernel_rfl)
    (of_decide_eq_true (by kernel_rfl)) (by unfold Func.isWrapper; first | (rw [if_pos (by decide +kernel)]; kernel_rfl) | (rw [if_neg (by decide +kernel)]; exact ⟨rfl, rfl⟩))
    (fun os started H enc _ => lifted os started H enc)
end Go.Proofs.Ytiabhgkndejigab.parcelReaderOwn
namespace Go.Proofs.Ytiabhgkndejigab
theorem parcelReaderOwn_holds : Rows.ParcelReaderOwnSaid := parcelReaderOwn.over
end Go.Proofs.Ytiabhgkndejigab
