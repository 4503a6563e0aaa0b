/- Of every row of ledgers: Holder and Sound answer what the document says, the row stays as it was, spare room too, and turned round where it lies it is answered as the row that it is then; for every row, with no condition. -/
import Derived.Test.YtnpabeodakncfaaGArgR
import Derived.Test.YtnpabeodakncfaaGRowsW
namespace Go.Proofs.Ytnpabeodakncfaa.ledgerRows
open Go.ChangeShapes Go.WideShapes Go.ChangeAt Go.RowKit
set_option linter.unusedVariables false

theorem own : ownKnob Try.prog.godebug = none := by kernel_rfl

theorem walk (a0 : Option Addr) (len0 cap0 : Nat) (z0 : List Ld) (w : World) (w0 : RowOf 3 lc w (.slice a0 len0 cap0) z0) (l0 : z0.length ≤ 5864062014634) (b0 : ∀ l ∈ z0, -9223372036854775808 ≤ l.ep) :
    Calls Try.prog 5 #[.slice a0 len0 cap0] w fun e w' => e = .returned (.bool true) ∧ Below w.heap.size w w' := by
  exact (ledgerRows_any w0 l0 b0).mono fun e w' ⟨he, hk⟩ => ⟨he, hk.below _ (Nat.le_refl _) (by simp)⟩

set_option maxRecDepth 100000 in
theorem lifted (os : Os) (started : os.Started) (H : Type) (enc : TypeId × Value → H) :
    ReturnsInHanded {} Try.checked os 5 .any (Rows.ledgerRowsSpec.pre6 enc Try.prog Try.f5 Rows.ledgerRowsRow.domain false) (Rows.ledgerRowsSpec.post enc Try.prog Try.f5 false true false false) := by
  refine returnsInHanded_of_change_sized (C := Try.checked) own started (by kernel_rfl) Try.func5
    (ChangeSpec.witness6 (enc := enc) (C := Try.checked) false ⟨#[], #[.slice none 0 0], []⟩ 8 (by kernel_rfl) (by kernel_rfl) (by kernel_rfl) (by kernel_rfl)) ?_
  intro W base args ds gs before hval0 hW hcnd hsz0 _
  have hval : ∀ (j : Nat) t v, Try.f5.params[j]? = some t → args[j]? = some v → Value.okWide Try.prog W .any base t v := hval0
  have hsz : (DataW.weightsEach Try.prog (Try.f5.params.toList ++ Rows.ledgerRowsSpec.plain.varTypes Try.prog) (ds ++ gs)).all (· ≤ reachBytes) = true := hsz0
  have hW' := hW
  obtain ⟨p, q, hA0, hV, rfl, hfz, hnd⟩ := hW
  have hA : DataW.TrodAll enc Try.prog W 0 (fun _ => true) true Try.f5.params.toList args.toList ds p := hA0
  rw [Try.params5] at hA hval hsz
  obtain ⟨v0, vs0, d0, ds0, p0, q0, hargs, rfl, rfl, h0, r0⟩ := trodAll_cons hA
  obtain ⟨rfl, rfl, rfl⟩ := trodAll_nil r0
  obtain rfl : args = #[v0] := by cases args; simp_all
  obtain ⟨rfl, rfl⟩ := trodVars_none hV
  obtain ⟨a0, len0, cap0, rfl⟩ := okWide_slice Try.underlying40 (hval 0 40 v0 rfl rfl)
  have k0 := h0
  have lt0 : ∀ x ∈ p0, x.block < W.heap.size := by obtain ⟨m, hm⟩ := k0; exact DataW.trod_lt m _ _ _ hm
  obtain ⟨z0, w0, l0, b0⟩ : ∃ z : List Ld, RowOf 3 lc W (.slice a0 len0 cap0) z ∧ z.length ≤ 5864062014634 ∧ ∀ l ∈ z, -9223372036854775808 ≤ l.ep := by
    obtain ⟨fuel, hf⟩ := h0
    have hf' := hf
    obtain ⟨a', n', c', z, hc, hz, hl, hb⟩ := open_ledsB hf
    simp [Value.cells] at hc
    obtain ⟨rfl, rfl, rfl⟩ := hc
    refine ⟨z, hz, ?_, hb⟩
    rw [hl]
    rcases open_ledsS (by simpa [Value.cells] using hf') with h0 | ⟨el, sp, hx, hn⟩
    · omega
    · have hre := sized_slice hsz (j := 0) (t := 40) (e := 25) rfl (by rw [← hx]; rfl) Try.underlying40
      rw [bytesLed] at hre
      simp only [reachBytes] at hre
      omega
  clear hA0 hval0
  refine (walk a0 len0 cap0 z0 W w0 l0 b0).mono fun e W' ⟨he, bel⟩ => ?_
  subst he
  exact ⟨_, rfl, _, _, _, [], _, [], hW', trodAll_mk1 (shut_bool Try.underlying4 _), (trodAll_cons_mk (Below.trod laidOut (by kernel_rfl) (of_decide_eq_true (by kernel_rfl)) k0 bel lt0) trodAll_mk0), rfl, bel.frame _, fun h => by cases h⟩

theorem over : Rows.ledgerRowsRow.holds Try.pinned (OpenSpec.ofChange Rows.ledgerRowsSpec) :=
  OpenClaim.holds_of_wide 5 Try.f5 rfl rfl rfl rfl rfl rfl rfl ⟨rfl, rfl, rfl, rfl, rfl⟩ rfl rfl rfl rfl rfl (by kernel_rfl) Try.func5 (by kernel_rfl)
    (of_decide_eq_true (by kernel_rfl)) (by unfold Func.isWrapper; first | (rw [if_pos (by decide +kernel)]; kernel_rfl) | (rw [if_neg (by decide +kernel)]; exact ⟨rfl, rfl⟩))
    (fun os started H enc _ => lifted os started H enc)
end Go.Proofs.Ytnpabeodakncfaa.ledgerRows
namespace Go.Proofs.Ytnpabeodakncfaa
theorem ledgerRows_holds : Rows.LedgerRowsSaid := ledgerRows.over
end Go.Proofs.Ytnpabeodakncfaa
