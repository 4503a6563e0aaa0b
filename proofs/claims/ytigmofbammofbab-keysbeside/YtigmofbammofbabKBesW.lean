/- KeysBeside: all cases -/
import Derived.Test.YtigmofbammofbabKBesN
import Derived.Test.YtigmofbammofbabKBesD
import Derived.Test.YtigmofbammofbabKBesE1
import Derived.Test.YtigmofbammofbabKBesE2
import Derived.Test.YtigmofbammofbabKBesJ
import Derived.Test.YtigmofbammofbabKBesJD
import Derived.Test.YtigmofbammofbabKArg
namespace Go.Proofs.Ytigmofbammofbab
open Go.RowKit

set_option maxRecDepth 100000 in
set_option maxHeartbeats 400000 in
theorem bes_e0 {w : World} {va vb : Value} {ra rb : Row} (ha : RowP w va ra) (hb : RowP w vb rb) (ca : ¬ cnt ra ≤ 131072) (j : Bool) :
    Calls Try.prog 5 #[va, vb, .bool j] w fun e w' => e = .returned (.bool true) ∧ Kept [] w w' := by
  have HBa := hide (beyond_any ha)
  rw [show decide (131072 < cnt ra) = true by simp; omega] at HBa
  obtain ⟨aa, capa, rfl, -⟩ := ha
  generalize ra.len = La at *
  obtain ⟨ab, capb, rfl, -⟩ := hb
  generalize rb.len = Lb at *
  go_enter Try.func5, Try.ntmps5
  go_wp2_with (first
    | (go_at_call 8; refine (unhide HBa).mono ?_; rintro e w' ⟨rfl, hq⟩; have hq' := hq.symm; subst hq'; clear HBa))
  go_ret
  exact ⟨rfl, Kept.refl _ _⟩

set_option maxRecDepth 100000 in
set_option maxHeartbeats 400000 in
theorem bes_e1 {w : World} {va vb : Value} {ra rb : Row} (ha : RowP w va ra) (hb : RowP w vb rb) (ca : cnt ra ≤ 131072) (cb : ¬ cnt rb ≤ 131072) (j : Bool) :
    Calls Try.prog 5 #[va, vb, .bool j] w fun e w' => e = .returned (.bool true) ∧ Kept [] w w' := by
  have HBa := hide (beyond_any ha)
  rw [show decide (131072 < cnt ra) = false by simp; omega] at HBa
  have HBb := hide (beyond_any hb)
  rw [show decide (131072 < cnt rb) = true by simp; omega] at HBb
  obtain ⟨aa, capa, rfl, -⟩ := ha
  generalize ra.len = La at *
  obtain ⟨ab, capb, rfl, -⟩ := hb
  generalize rb.len = Lb at *
  go_enter Try.func5, Try.ntmps5
  go_wp2_with (first
    | (go_at_call 8; refine (unhide HBa).mono ?_; rintro e w' ⟨rfl, hq⟩; have hq' := hq.symm; subst hq'; clear HBa)
    | (go_at_call 8; refine (unhide HBb).mono ?_; rintro e w' ⟨rfl, hq⟩; have hq' := hq.symm; subst hq'; clear HBb))
  go_ret
  exact ⟨rfl, Kept.refl _ _⟩

theorem okR_of_atP {w : World} {r : Row} : ∀ {b off : Nat}, AtP w r b off → okR r := by
  induction r with
  | nil => intro b off _; trivial
  | cons x p r ihp ihr =>
    intro b off h
    rw [AtP_cons] at h
    obtain ⟨⟨h1, tv, pv, _, _, hp⟩, hr⟩ := h
    refine ⟨h1.1, ?_, ihr hr⟩
    obtain ⟨_, _, _, _, _, hp⟩ := hp
    rcases hp with rfl | ⟨b', off', _, _, hp⟩
    · trivial
    · exact ihp hp
theorem okR_of_rowP {r : Row} {w : World} {v : Value} (h : RowP w v r) : okR r := by
  obtain ⟨_, _, _, _, _, h⟩ := h
  rcases h with rfl | ⟨b', off', _, _, h⟩
  · trivial
  · exact okR_of_atP h
theorem open_bool1 {H : Type} {enc : TypeId × Value → H} {P : Program} {w : World} {base : Nat} {spare : Nat → Bool} {held : Bool} {r : Reach} {b0 : Nat} {t : TypeId} {v : Value} {d : DataW H} {ps : List MemPlace} (ht : P.underlying t = some .bool) (hval : Value.okWide P w r b0 t v) (hd : DataW.Trod enc P w base spare held t v d ps) :
    ∃ b, v = .bool b ∧ d = .lit (.bool b) ∧ ps = [] := by
  obtain ⟨b, rfl⟩ := Go.WideShapes.okWide_bool ht hval
  obtain ⟨fuel, hf⟩ := hd
  obtain ⟨b', h, hx⟩ := DataW.trod_bool ht hf
  simp [Value.cells] at h
  subst h
  simp only [Prod.mk.injEq] at hx
  exact ⟨b, rfl, hx.1, hx.2⟩
theorem beside_walk {w : World} {va vb : Value} {ra rb : Row} (ha : RowP w va ra) (hb : RowP w vb rb) (j : Bool) :
    Calls Try.prog 5 #[va, vb, .bool j] w fun e w' => e = .returned (.bool true) ∧ Kept [] w w' := by
  by_cases ca : cnt ra ≤ 131072
  · by_cases cb : cnt rb ≤ 131072
    · have oa := okR_of_rowP ha
      have ob := okR_of_rowP hb
      cases j
      · by_cases fr : faultR ra 0 = 0
        · by_cases fu : faultR rb 0 = 0
          · have f1 := fine_of_fault fr
            have f2 := fine_of_fault fu
            by_cases hl : ra.len ≤ rb.len
            · by_cases hz : cmpR ra (rb.take ra.len) = 0
              · obtain ⟨g1, g2⟩ := beside_in f1 f2 oa ob hl hz
                exact bes_nD ha hb ca cb fr fu hl hz g1 g2
              · by_cases g1 : 0 < cmpL (codeR ra) (codeR rb)
                · exact bes_nE1 ha hb ca cb fr fu hl hz g1
                · exact bes_nE2 ha hb ca cb fr fu hl hz g1 ((beside_out f1 f2 oa ob hl hz).resolve_left g1)
            · by_cases g1 : 0 < cmpL (codeR ra) (codeR rb)
              · exact bes_nC1 ha hb ca cb fr fu (by omega) g1
              · exact bes_nC2 ha hb ca cb fr fu (by omega) g1 ((beside_short f1 f2 oa ob (by omega)).resolve_left g1)
          · exact bes_nB ha hb ca cb fr fu
        · exact bes_nA ha hb ca cb fr
      · by_cases fr : faultR ra 0 = 0
        · by_cases fu : faultR (ra.app rb) 0 = 0
          · have f1 := fine_of_fault fr
            have f2 := fine_of_fault fu
            have hl : ra.len ≤ (ra.app rb).len := by rw [Row.app_len]; omega
            have hz : cmpR ra ((ra.app rb).take ra.len) = 0 := by rw [Row.take_app]; rw [sort_code f1 f1 oa oa]; exact cmpL_self _
            obtain ⟨g1, g2⟩ := beside_in f1 f2 oa (okR_app.2 ⟨oa, ob⟩) hl hz
            exact bes_jD ha hb ca cb fr fu hl hz g1 g2
          · exact bes_jB ha hb ca cb fr fu
        · exact bes_jA ha hb ca cb fr
    · exact bes_e1 ha hb ca cb j
  · exact bes_e0 ha hb ca j
end Go.Proofs.Ytigmofbammofbab
