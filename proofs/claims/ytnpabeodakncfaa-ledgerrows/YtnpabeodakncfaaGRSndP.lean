/- The document's Sound, in plain words: it asks what sndP asks. -/
import Derived.Test.YtnpabeodakncfaaGRHold
import Derived.Test.YtnpabeodakncfaaGSound
namespace Go.Proofs.Ytnpabeodakncfaa
open Go.RowKit

theorem rholder_is {w : World} {v : Value} {row : List Ld} (hv : RowOf 3 lc w v row) (hb : ∀ i, i < row.length → -9223372036854775808 ≤ (rg row i).ep) : Calls Try.prog 15 #[v] w fun e w' => e = .returned (.int .i64 (hldr row)) ∧ Kept [] w w' := by
  refine (rholder_any hv).mono ?_
  rintro e w' ⟨⟨g, o, r, h1, h2, h3, rfl⟩, hk⟩
  exact ⟨by rw [rh_hldr hb h1 h2 h3], hk⟩
theorem hldr_clm {row : List Ld} (h : 0 ≤ hldr row) : ∃ m : Nat, m < row.length ∧ hldr row = (m : Int) ∧ clm (rg row m) = true := by
  unfold hldr at h ⊢
  rcases hj_all row row.length with ⟨h1, h2⟩ | ⟨m, sv, h1, h2, h3, -⟩
  · rw [h1] at h; simp at h
  · rw [h2] at h ⊢
    cases sv
    · exact ⟨m, h1, by simp, h3⟩
    · simp at h
/-- the first loop's question, of the entry i -/
def dA (row : List Ld) (h : Nat) (i : Nat) : Prop := vld (i : Int) (rg row i) = true ∧ (rg row i).pe < (row.length : Int) ∧ (rg row i).ep ≤ (rg row h).ep
/-- the second loop's -/
def dB (h : Nat) (i : Nat) (l p : Ld) : Prop :=
  ((l.ph = 1 ∨ l.ph = 2) → i = h) ∧ (l.ph = 3 → l.ep ≤ p.ep ∧ (i ≠ h → p.ph = 4 → p.ep ≠ l.ep)) ∧ (l.ph = 4 → l.ep ≤ p.ep) ∧ (l.ph = 4 → p.ep = l.ep → l.pe = (h : Int) ∧ (p.ph = 2 ∨ p.ph = 3) ∧ p.pe = (i : Int))
theorem vld_all {s : Int} {l : Ld} (h : vld s l = true) : 0 ≤ s ∧ s < 8 ∧ 0 ≤ l.pe ∧ (l.ph = 1 ↔ l.pe = s) := by
  unfold vld at h
  have := of_decide_eq_true h
  exact ⟨this.1, this.2.1, this.2.2.1, this.2.2.2.2.2.2.1⟩
theorem agr_plain {m i : Nat} {l p mm : Ld} (vm : mm.ph = 1 ↔ mm.pe = (m : Int)) (cm : mm.ph = 1 ∨ mm.ph = 2 ∨ mm.ph = 3) (ep : l.pe = (m : Int) → p = mm) (em : i = m → l = mm) :
    (if l.ph = 1 ∨ l.ph = 2 then decide ((i : Int) = (m : Int))
      else if l.ph = 3 then (if p.ep = l.ep then decide ((i : Int) = (m : Int) ∨ p.ph ≠ 4) else decide (l.ep < p.ep))
      else if l.ph = 4 then (if p.ep = l.ep then decide (l.pe = (m : Int) ∧ p.pe = (i : Int)) else decide (l.ep < p.ep))
      else true) = true ↔ dB m i l p := by
  unfold dB
  by_cases h1 : l.ph = 1
  · simp [h1]; omega
  · by_cases h2 : l.ph = 2
    · simp [h2]; omega
    · by_cases h3 : l.ph = 3
      · by_cases q : p.ep = l.ep
        · simp [h3, q]; omega
        · simp [h3, q]; omega
      · by_cases h4 : l.ph = 4
        · by_cases q : p.ep = l.ep
          · simp only [h4, q, if_true]
            simp
            intro z1 z2
            have e := ep z1
            subst e
            have : ¬ i = m := fun z => by
              have := em z
              subst this
              omega
            omega
          · simp [h4, q]; omega
        · simp [h1, h2, h3, h4]
theorem agr_dB {row : List Ld} {m i : Nat} (vm : (rg row m).ph = 1 ↔ (rg row m).pe = (m : Int)) (cm : (rg row m).ph = 1 ∨ (rg row m).ph = 2 ∨ (rg row m).ph = 3) :
    agr row (m : Int) i = true ↔ dB m i (rg row i) (rg row (rg row i).pe.toNat) :=
  agr_plain vm cm (fun z => by rw [z, Int.toNat_natCast]) (fun z => by rw [z])
theorem snd_iff {row : List Ld} {h : Nat} (hh : hldr row = (h : Int)) : sndP row ↔ (∀ i, i < row.length → dA row h i) ∧ ∀ i, i < row.length → dB h i (rg row i) (rg row (rg row i).pe.toNat) := by
  obtain ⟨m, m1, m2, m3⟩ := hldr_clm (row := row) (by omega)
  obtain rfl : m = h := by omega
  have cm := (clm_def _).1 m3
  unfold sndP dA
  rw [hh, Int.toNat_natCast]
  constructor
  · rintro ⟨h1, -, h2⟩
    have vm := (vld_all (h1 m m1).1).2.2.2
    exact ⟨fun i hi => ⟨(h1 i hi).1, (h1 i hi).2, (h2 i hi).1⟩, fun i hi => (agr_dB vm cm).1 (h2 i hi).2⟩
  · rintro ⟨h1, h2⟩
    have vm := (vld_all (h1 m m1).1).2.2.2
    exact ⟨fun i hi => ⟨(h1 i hi).1, (h1 i hi).2.1⟩, by omega, fun i hi => ⟨(h1 i hi).2.2, (agr_dB vm cm).2 (h2 i hi)⟩⟩
theorem snd_len {row : List Ld} (h : sndP row) : 1 ≤ row.length ∧ row.length ≤ 8 := by
  obtain ⟨h1, h2, -⟩ := h
  obtain ⟨m, m1, -⟩ := hldr_clm h2
  refine ⟨by omega, ?_⟩
  have := (vld_all (h1 (row.length - 1) (by omega)).1).2.1
  omega
end Go.Proofs.Ytnpabeodakncfaa
