/- known: the meter that the document names. -/
import Derived.Test.YthhgeobfolhpoaaVMade
namespace Go.Proofs.Ythhgeobfolhpoaa
open Go.RowKit

/-- a meter of the call's own, since the world w -/
structure St (w W : World) (b g : Nat) (m : Mt) : Prop where
  mp : Mp W b g m
  kept : Kept [] w W
  hb : w.heap.size ≤ b
  hg : w.heap.size ≤ g
theorem St.on {w W W' : World} {b g : Nat} {m m' : Mt} (h : St w W b g m) (hm : Mp W' b g m') (hk : Kept [b, g] W W') : St w W' b g m' :=
  ⟨hm, h.kept.trans hk (fun x hx => by
    simp at hx
    rcases hx with rfl | rfl
    · exact Or.inr h.hb
    · exact Or.inr h.hg), h.hb, h.hg⟩
theorem St.quiet {w W W' : World} {b g : Nat} {m : Mt} (h : St w W b g m) (hk : Kept [] W W') : St w W' b g m := ⟨h.mp.kept hk (by simp) (by simp), h.kept.trans hk (fun _ hx => by cases hx), h.hb, h.hg⟩

def M0 : Mt := Mt.new 3 10
def M1 : Mt := M0.onHit 0 0 4620693217682128896
def M2 : Mt := M1.onHit 2 5 4616189618054758400
def M3 : Mt := M2.onHit 0 9 4607182418800017408
def M4 : Mt := M3.onGo 10
theorem m1E : M0.hitE 0 0 4620693217682128896 = 0 := by decide +kernel
theorem m2E : M1.hitE 2 5 4616189618054758400 = 0 := by decide +kernel
theorem m3E : M2.hitE 0 9 4607182418800017408 = 0 := by decide +kernel
theorem m4E : M3.goE 10 = 0 := by decide +kernel
theorem m4L : M4.loads = [4616752568008179712, 0, 4611686018427387904] := by decide +kernel
theorem m4S : M4.sum = 4619004367821864960 := by decide +kernel
theorem m4T : topF M4.loads M4.loads.length = 0 := by decide +kernel
theorem m4G : ∀ j, good (([4616752568008179712, 0, 4611686018427387904] : List Nat).getD j 0) := by
  intro j
  unfold good
  match j with
  | 0 => decide
  | 1 => decide
  | 2 => decide
  | (k + 3) => exact Nat.zero_le _
theorem m4N : ([4616752568008179712, 0, 4611686018427387904] : List Nat).length ≤ 4398046511104 := by decide
theorem SeesF.keptE {w w' : World} {v : Value} {l : List Nat} (h : SeesF w v l) (hk : Kept [] w w') : SeesF w' v l := h.kept hk (Or.inr (by simp))
theorem eq65 : (FloatKind.f64.format.order 4619004367821864960 4619004367821864960 == some Ordering.eq) = true := by decide +kernel
theorem sees3 {w : World} {b x y z : Nat} (h : Blk w b #[.float .f64 x, .float .f64 y, .float .f64 z] 46) : SeesF w (.slice (some ⟨b, 0, none⟩) 3 3) [x, y, z] := by
  refine ⟨some ⟨b, 0, none⟩, 3, rfl, by simp, by simp [maxLen], Or.inr ⟨b, 0, rfl, h.lt, fun j hj => ?_⟩⟩
  rw [Nat.zero_add, h.cell]
  simp at hj
  rcases (show j = 0 ∨ j = 1 ∨ j = 2 by omega) with rfl | rfl | rfl <;> rfl

set_option maxRecDepth 100000 in
set_option maxHeartbeats 2000000 in
theorem known_any (w : World) : Calls Try.prog 14 #[] w fun e w' => e = .returned (.bool true) ∧ Kept [] w w' := by
  have HNW := hide (new_yes w (n := 3) (h := 10) (by omega) (by omega) (by omega) (by omega))
  have HNM := fun x W => hide (num_any W x)
  have HH1 := hide (fun W b g (h : Mp W b g M0) => hit_any h 0 0 (x := 4620693217682128896) (by omega))
  have HH2 := hide (fun W b g (h : Mp W b g M1) => hit_any h 2 5 (x := 4616189618054758400) (by omega))
  have HH3 := hide (fun W b g (h : Mp W b g M2) => hit_any h 0 9 (x := 4607182418800017408) (by omega))
  have HH4 := hide (fun W b g (h : Mp W b g M3) => go_any h 10)
  rw [m1E, Int.natCast_zero] at HH1
  rw [m2E, Int.natCast_zero] at HH2
  rw [m3E, Int.natCast_zero] at HH3
  rw [m4E, Int.natCast_zero] at HH4
  have HRW := hide (fun W b g (h : Mp W b g M4) => row_any h)
  have HSM := hide (fun W b g (h : Mp W b g M4) => sum_any h)
  have HTP := hide (fun W b g (h : Mp W b g M4) => top_any h)
  rw [m4S] at HSM
  rw [m4T, Int.natCast_zero] at HTP
  have t65 := eq65
  go_enter Try.func14, Try.ntmps14
  go_wp2_with (first
    | (go_at_call 9; refine (unhide HNW).mono ?_; rintro e w1 ⟨b, g, rfl, hm1, hk1, hb1, hg1⟩; have HS := hide (show St w w1 b g M0 from ⟨hm1, hk1, hb1, hg1⟩); clear HNW hm1 hk1 hb1 hg1)
    | (go_at_call 29; refine (unhide HH1 _ _ _ (unhide HS).mp).mono ?_; rintro e w1 ⟨rfl, hm1, hk1⟩; have HT := hide ((unhide HS).on (m' := M1) hm1 hk1); clear HS HH1 hm1 hk1; have HS := HT; clear HT)
    | (go_at_call 29; refine (unhide HH2 _ _ _ (unhide HS).mp).mono ?_; rintro e w1 ⟨rfl, hm1, hk1⟩; have HT := hide ((unhide HS).on (m' := M2) hm1 hk1); clear HS HH2 hm1 hk1; have HS := HT; clear HT)
    | (go_at_call 29; refine (unhide HH3 _ _ _ (unhide HS).mp).mono ?_; rintro e w1 ⟨rfl, hm1, hk1⟩; have HT := hide ((unhide HS).on (m' := M3) hm1 hk1); clear HS HH3 hm1 hk1; have HS := HT; clear HT)
    | (go_at_call 18; refine (unhide HH4 _ _ _ (unhide HS).mp).mono ?_; rintro e w1 ⟨rfl, hm1, hk1⟩; have HT := hide ((unhide HS).on (m' := M4) hm1 hk1); clear HS HH4 hm1 hk1; have HS := HT; clear HT)
    | (go_at_call 11; refine (unhide (HNM _ _)).mono ?_; rintro e w1 ⟨rfl, hq⟩; have hq' := hq.symm; subst hq')
    | (go_at_call 17; refine (unhide HRW _ _ _ (unhide HS).mp).mono ?_; rintro e w1 ⟨v, rfl, ho, hk1⟩; rw [m4L] at ho; have hv := SeesF.of_own ho; obtain ⟨va, vc, hvv⟩ := own_len ho; have hvv' : v = .slice va 3 vc := hvv; subst hvv'; have HV := hide hv; have HT := hide ((unhide HS).quiet hk1); clear HS HRW hk1 ho hv hvv; have HS := HT; clear HT)
    | (go_at_call 21; refine (rows_same (l := [4616752568008179712, 0, 4611686018427387904]) ((unhide HV).keptE ((Kept.refl _ _).alloc _)) (sees3 (Blk.new _ _ _)) m4N m4G).mono ?_; rintro e w2 ⟨rfl, hq⟩; have HT := hide (((unhide HS).quiet ((Kept.refl _ _).alloc _)).quiet hq.kept); clear HS HV hq; have HS := HT; clear HT)
    | (go_at_call 26; refine (unhide HSM _ _ _ (unhide HS).mp).mono ?_; rintro e w1 ⟨rfl, hq⟩; have hq' := hq.symm; subst hq'; clear HSM)
    | (go_at_call 28; refine (unhide HTP _ _ _ (unhide HS).mp).mono ?_; rintro e w1 ⟨rfl, hq⟩; have hq' := hq.symm; subst hq'; clear HTP))
  go_ret
  exact ⟨rfl, (unhide HS).kept⟩
end Go.Proofs.Ythhgeobfolhpoaa
