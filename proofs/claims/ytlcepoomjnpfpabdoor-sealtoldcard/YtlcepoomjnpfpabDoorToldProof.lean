/- SealTold answers true for every text, every place and every four bytes to turn with: texts that differ in up to four bytes side by side have unlike sums, texts that differ in one byte unlike marks. The row lists the program's table of four steps, tied to the program's text; no other condition. -/
import Derived.Test.YtlcepoomjnpfpabDoorArg
import Derived.Test.YtlcepoomjnpfpabDoorToldW
import Derived.Laws.IdiomArrays
namespace Go.Proofs.YtlcepoomjnpfpabDoor.sealTold
open Go.ChangeShapes Go.WideShapes Go.ChangeAt Go.RowKit
set_option linter.unusedVariables false

theorem own : ownKnob Tryd.prog.godebug = none := by kernel_rfl

theorem listOf4 (l : List Value) (h : l.toArray.size = 4) : ∃ a b c d, l = [a, b, c, d] := by
  match l, h with
  | [a, b, c, d], _ => exact ⟨a, b, c, d, rfl⟩

theorem walk (a0 : Option Addr) (len0 cap0 : Nat) (z0 : List Int) (a1 : Int) (x20 x21 x22 x23 : Int) (w : World) (w0 : IsRow .u8 w a0 len0 cap0 z0) (l0 : len0 ≤ 140737488351232) (w1 : (Lit.int .i64 a1).wf = true) (w20 : (Lit.int .u8 x20).wf = true) (w21 : (Lit.int .u8 x21).wf = true) (w22 : (Lit.int .u8 x22).wf = true) (w23 : (Lit.int .u8 x23).wf = true) (ht : Tab w) :
    Calls Tryd.prog 5 #[.slice a0 len0 cap0, .int .i64 a1, .agg #[.int .u8 x20, .int .u8 x21, .int .u8 x22, .int .u8 x23]] w fun e w' => e = .returned (.bool true) ∧ Below w.heap.size w w' := by
  obtain ⟨bs, hs, hl⟩ := sees_of_isRow w0
  obtain ⟨h3, h4⟩ := bounds_i64 w1
  obtain ⟨g0, f0⟩ := bounds_u8 w20
  obtain ⟨g1, f1⟩ := bounds_u8 w21
  obtain ⟨g2, f2⟩ := bounds_u8 w22
  obtain ⟨g3, f3⟩ := bounds_u8 w23
  obtain ⟨o0, rfl⟩ := Int.eq_ofNat_of_zero_le g0
  obtain ⟨o1, rfl⟩ := Int.eq_ofNat_of_zero_le g1
  obtain ⟨o2, rfl⟩ := Int.eq_ofNat_of_zero_le g2
  obtain ⟨o3, rfl⟩ := Int.eq_ofNat_of_zero_le g3
  exact (told_walk ht hs (by omega) a1 (by omega) (by omega) [o0, o1, o2, o3] rfl (by intro b hb; simp at hb; omega)).mono fun e w' ⟨he, hk⟩ => ⟨he, hk.below _ (Nat.le_refl _) (by simp)⟩

set_option maxRecDepth 100000 in
theorem lifted (os : Os) (started : os.Started) (H : Type) (enc : TypeId × Value → H) :
    ReturnsInHanded {} Tryd.checked os 5 .any (fun w args => (Rows.sealToldSpec.pre enc Tryd.prog Tryd.f5 Rows.sealToldRow.domain false w args ∧ laidMetH Tryd.prog laidList w) ∧ sizedMet enc Tryd.prog Tryd.f5 (OpenSpec.ofChange Rows.sealToldSpec) false w args)
      (Rows.sealToldSpec.post enc Tryd.prog Tryd.f5 false true false false) := by
  refine returnsInHanded_of_change_and (C := Tryd.checked) (X := fun w _ => laidMetH Tryd.prog laidList w) (fun _ _ _ hh h => h.of_heap hh) own started (by kernel_rfl) Tryd.func5
    (ChangeSpec.witness_shaped (enc := enc) (C := Tryd.checked) (os := os) (X := fun w _ => laidMetH Tryd.prog laidList w) false (World.laidAll Tryd.prog os laidList) #[.slice none 0 0, .int .i64 0, .agg #[.int .u8 0, .int .u8 0, .int .u8 0, .int .u8 0]] 8 (World.laidAll_os _ _ _)
      (World.shaped_of_ZipB (by kernel_rfl) (by kernel_rfl)) (by kernel_rfl) (by kernel_rfl) (by kernel_rfl)
      (by rw [laid_plain]; exact laidMet_laidAll _ (by kernel_rfl) (by kernel_rfl))) ?_
  intro W base args ds gs before hval0 hW hcnd hsz0 hL _
  have hval : ∀ (j : Nat) t v, Tryd.f5.params[j]? = some t → args[j]? = some v → Value.okWide Tryd.prog W .any base t v := hval0
  have hsz : (DataW.weightsEach Tryd.prog (Tryd.f5.params.toList ++ Rows.sealToldSpec.plain.varTypes Tryd.prog) (ds ++ gs)).all (· ≤ reachBytes) = true := hsz0
  have hW' := hW
  obtain ⟨p, q, hA0, hV, rfl, hfz, hnd⟩ := hW
  have hA : DataW.TrodAll enc Tryd.prog W 0 (fun _ => true) true Tryd.f5.params.toList args.toList ds p := hA0
  rw [Tryd.params5] at hA hval hsz
  obtain ⟨v0, vs0, d0, ds0, p0, q0, hargs, rfl, rfl, h0, r0⟩ := trodAll_cons hA
  obtain ⟨v1, vs1, d1, ds1, p1, q1, rfl, rfl, rfl, h1, r1⟩ := trodAll_cons r0
  obtain ⟨v2, vs2, d2, ds2, p2, q2, rfl, rfl, rfl, h2, r2⟩ := trodAll_cons r1
  obtain ⟨rfl, rfl, rfl⟩ := trodAll_nil r2
  obtain rfl : args = #[v0, v1, v2] := by cases args; simp_all
  obtain ⟨rfl, rfl⟩ := trodVars_none hV
  obtain ⟨a0, len0, cap0, rfl⟩ := okWide_slice Tryd.underlying22 (hval 0 22 v0 rfl rfl)
  have k0 := h0
  have lt0 : ∀ x ∈ p0, x.block < W.heap.size := by obtain ⟨m, hm⟩ := k0; exact DataW.trod_lt m _ _ _ hm
  obtain ⟨z0, w0, l0⟩ : ∃ zs, IsRow .u8 W a0 len0 cap0 zs ∧ len0 ≤ 140737488351232 := by
    obtain ⟨fuel, hf⟩ := h0
    rcases open_ints Tryd.underlying22 Tryd.underlying5 (by kernel_rfl) hf with ⟨hcs, _⟩ | ⟨x, l, c, zs, hcs, _, hl, hm, hz, hxx, hcell, hwz⟩
    · simp [Value.cells] at hcs
      obtain ⟨rfl, rfl, rfl⟩ := hcs
      exact ⟨[], .inl ⟨rfl, rfl, rfl, rfl⟩, by omega⟩
    · simp [Value.cells] at hcs
      obtain ⟨rfl, rfl, rfl⟩ := hcs
      obtain ⟨hxd, _⟩ := Prod.mk.inj hxx
      have hre := sized_slice hsz (j := 0) (t := 22) (e := 5) rfl (by rw [hxd]; rfl) Tryd.underlying22
      rw [bytes5] at hre
      simp only [lits, List.length_map, List.length_take, List.length_drop, reachBytes] at hre
      have hz2 : zs.length = cap0 := by simpa using hz
      exact ⟨zs, .inr ⟨_, rfl, hl, hm, hz2, hcell, hwz⟩, by omega⟩
  obtain ⟨a1, rfl, rfl, rfl, w1⟩ := open_int Tryd.underlying3 (hval 1 3 v1 rfl rfl) h1
  have k2 := h2
  have lt2 : ∀ x ∈ p2, x.block < W.heap.size := by obtain ⟨m, hm⟩ := k2; exact DataW.trod_lt m _ _ _ hm
  obtain ⟨cs2, rfl, hsz2, _⟩ : ∃ cs, v2 = .agg cs ∧ cs.size = Tryd.prog.cellsOf 24 ∧ Row.okWide Tryd.prog W .any base 24 cs := by
    have := hval 2 24 v2 rfl rfl
    simpa [Value.okWide, Tryd.underlying24] using this
  rw [show Tryd.prog.cellsOf 24 = 4 by kernel_rfl] at hsz2
  obtain ⟨l2'⟩ := cs2
  obtain ⟨c20, c21, c22, c23, rfl⟩ := listOf4 l2' hsz2
  obtain ⟨fuel2, hf2⟩ := h2
  obtain ⟨y20, y21, y22, y23, m2, _, hy20, hy21, hy22, hy23⟩ := trod_array4 Tryd.underlying24 (by kernel_rfl) hf2
  obtain ⟨x20, e20, _, w20⟩ := DataW.trod_int Tryd.underlying5 hy20
  obtain ⟨x21, e21, _, w21⟩ := DataW.trod_int Tryd.underlying5 hy21
  obtain ⟨x22, e22, _, w22⟩ := DataW.trod_int Tryd.underlying5 hy22
  obtain ⟨x23, e23, _, w23⟩ := DataW.trod_int Tryd.underlying5 hy23
  simp at e20 e21 e22 e23
  subst e20 e21 e22 e23
  clear hA0 hval0
  refine (walk a0 len0 cap0 z0 a1 x20 x21 x22 x23 W w0 l0 w1 w20 w21 w22 w23 (tab_of_laid hL)).mono fun e W' ⟨he, bel⟩ => ?_
  subst he
  exact ⟨_, rfl, _, _, _, [], _, [], hW', trodAll_mk1 (shut_bool Tryd.underlying4 _), (trodAll_cons_mk (Below.trod laidOut (by kernel_rfl) (of_decide_eq_true (by kernel_rfl)) k0 bel lt0) (trodAll_cons_mk (shut_int Tryd.underlying3 w1) (trodAll_cons_mk (Below.trod laidOut (by kernel_rfl) (of_decide_eq_true (by kernel_rfl)) k2 bel lt2) trodAll_mk0))), rfl, bel.frame _, fun h => by cases h⟩

theorem holds : Rows.sealToldRow.holds Tryd.pinned (OpenSpec.ofChange Rows.sealToldSpec) :=
  OpenClaim.holds_of_wide 5 Tryd.f5 rfl rfl rfl rfl rfl rfl rfl ⟨rfl, rfl, rfl, rfl, rfl⟩ rfl rfl rfl rfl rfl (by kernel_rfl) Tryd.func5 (by kernel_rfl)
    (of_decide_eq_true (by kernel_rfl)) (by unfold Func.isWrapper; first | (rw [if_pos (by decide +kernel)]; kernel_rfl) | (rw [if_neg (by decide +kernel)]; exact ⟨rfl, rfl⟩))
    (fun os started H enc _ => lifted os started H enc)

theorem card_holds : Rows.SealToldCardSaid :=
  Claim7.holds_tied_plain_at .later [] [.data] true (true, "69f3ad3f8f145a136904108c6bab3a2443294ef902284852e97d0b079fc6215b") false holds (fun _ h => by cases h) (by kernel_rfl) (fun _ h => by cases h) sealTold_row_tie rfl ⟨rfl, rfl⟩ (by kernel_rfl) rfl
    (fun f fn hf hfn => by
      obtain rfl : f = 5 := Option.some.inj ((show Tryd.prog.funcNamed "haulage/haulagelaw02.SealTold" = some 5 by kernel_rfl).symm.trans hf) |>.symm
      obtain rfl : fn = Tryd.f5 := (Option.some.inj (Tryd.func5.symm.trans hfn)).symm
      exact ⟨by kernel_rfl, fun j t ht => by
        rw [Tryd.params5] at ht
        have hm : t ∈ [22, 3, 24] := by simpa using Array.mem_of_getElem? ht
        have hall : ([22, 3, 24].all fun u => !Tryd.prog.wantsStandIn u) = true := by kernel_rfl
        exact (show Tryd.prog.wantsStandIn t = false by simpa using List.all_eq_true.1 hall t hm)⟩)
    (by kernel_rfl)
end Go.Proofs.YtlcepoomjnpfpabDoor.sealTold
namespace Go.Proofs.YtlcepoomjnpfpabDoor
theorem sealTold_holds : Rows.SealToldCardSaid := sealTold.card_holds
end Go.Proofs.YtlcepoomjnpfpabDoor
