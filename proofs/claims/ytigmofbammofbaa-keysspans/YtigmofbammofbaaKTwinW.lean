/- twin: the same lists once more. -/
import Derived.Test.YtigmofbammofbaaKTwin
namespace Go.Proofs.Ytigmofbammofbaa
open Go.RowKit

theorem partsOk_mem {C : Row → Prop} {l : List El} (h : PartsOk C (rowE l)) : ∀ e ∈ l, C e.p := by
  induction l with
  | nil => simp
  | cons e l ih =>
    intro x hx
    rcases List.mem_cons.1 hx with rfl | hx
    · exact h.1
    · exact ih h.2 x hx
theorem cnt_mem {l : List El} {e : El} (h : e ∈ l) : cnt e.p ≤ cnt (rowE l) := by
  induction l with
  | nil => cases h
  | cons x l ih =>
    simp only [rowE, cnt]
    rcases List.mem_cons.1 h with rfl | h
    · omega
    · have := ih h; omega

def TwinC (r : Row) : Prop := ∀ (S : Nat → Prop) (w : World) (gv : Value), RowM S w gv r → cnt r ≤ 262144 →
  Calls Try.prog 12 #[gv] w fun e w' => ∃ c cap', e = .returned (.slice (some ⟨c, 0, none⟩) r.len cap') ∧ RowK (fun x => S x ∨ w.heap.size ≤ x) w' gv (.slice (some ⟨c, 0, none⟩) r.len cap') r ∧ Kept [] w w'

/-- what is known of the twin that is being made -/
def TwI (S : Nat → Prop) (w wr : World) (g cap' L : Nat) (l : List El) (k : Nat) (d : List (El × Value)) (s : List El) : Prop :=
  d.length = k ∧ givenL d ++ s = l ∧ wr.ownsRow w.heap.size 54 7 (.slice (some ⟨g, 0, none⟩) L cap') L (flatE (firstL d ++ s)) ∧ (∀ x ∈ d, ElK (fun x => (S x ∨ w.heap.size ≤ x) ∧ x ≠ g) wr x) ∧ Kept [] w wr
theorem TwI.load {S : Nat → Prop} {w wr : World} {g cap' L k : Nat} {l s : List El} {d : List (El × Value)} {e : El} (h : TwI S w wr g cap' L l k d (e :: s)) : wr.cell? ⟨g, k * 7 + 6, none⟩ = some e.pv := by
  obtain ⟨h1, h2, h3, h4, h5⟩ := h
  refine ownV_cell h3 ?_
  have hl : (firstL d).length = k := by simp [firstL, h1]
  rw [flatE_app, List.getElem?_append_right (by rw [flatE_len, hl]; omega), flatE_len, hl, show k * 7 + 6 - k * 7 = 6 by omega]
  rfl
theorem TwI.step {S : Nat → Prop} {w wr w1 : World} {g cap' L k : Nat} {l s : List El} {d : List (El × Value)} {e : El} {q : Value} (h : TwI S w wr g cap' L l k d (e :: s)) (hg1 : w.heap.size ≤ g) (hg2 : g < wr.heap.size) (he : ElM (fun x => S x ∧ x < w.heap.size) w e) (hk1 : Kept [] wr w1) (hq : RowK (fun x => (S x ∧ x < w.heap.size) ∨ wr.heap.size ≤ x) w1 e.pv q e.p) :
    TwI S w (w1.setCell ⟨g, k * 7 + 6, none⟩ q) g cap' L l (k + 1) (d ++ [(e, q)]) s := by
  obtain ⟨h1, h2, h3, h4, h5⟩ := h
  have hk2 : Kept [g] w1 (w1.setCell ⟨g, k * 7 + 6, none⟩ q) := (Kept.refl _ w1).setCell (p := ⟨g, k * 7 + 6, none⟩) (Or.inl (by simp)) q
  have hk3 : Kept [] w (w1.setCell ⟨g, k * 7 + 6, none⟩ q) := (h5.trans hk1 (by simp)).trans hk2 (fun x hx => Or.inr (by simp at hx; omega))
  refine ⟨by simp [h1], by rw [← h2]; simp [givenL], ?_, ?_, hk3⟩
  · have h6 := ownV_set (own_kept h3 hk1 (by simp)) (k * 7 + 6) q
    have hl : (firstL d).length = k := by simp [firstL, h1]
    have h7 := flat_set (firstL d) e s q
    rw [hl] at h7
    rw [h7] at h6
    have h8 : firstL (d ++ [(e, q)]) ++ s = firstL d ++ setQ e q :: s := by simp [firstL]
    rw [h8]
    exact h6
  · intro x hx
    rcases List.mem_append.1 hx with hx | hx
    · exact ((h4 x hx).kept hk1 (by simp)).kept hk2 (fun z hz hm => by simp at hz; exact hm.2 hz)
    · have : x = (e, q) := by simpa using hx
      subst this
      refine ⟨he.1, ?_, ?_⟩
      · exact (he.2.1.kept hk3 (by simp)).mono (fun z _ hz => ⟨Or.inl hz.1, by have := hz.2; omega⟩)
      · refine (hq.kept hk2 (fun z hz hm => ?_)).mono (fun z _ hz => ⟨?_, ?_⟩)
        · simp at hz
          rcases hm with hm | hm
          · have := hm.2; omega
          · omega
        · rcases hz with hz | hz
          · exact Or.inl hz.1
          · have := h5.size; exact Or.inr (by omega)
        · rcases hz with hz | hz
          · have := hz.2; omega
          · omega

set_option maxRecDepth 100000 in
set_option maxHeartbeats 4000000 in
theorem twin_any (r : Row) : TwinC r := by
  refine Row.parts_ind (fun r hC => ?_) r
  rintro S w gv ⟨b, cap, rfl, h1, h2, h3, h4, h5, hat⟩ hcn
  obtain ⟨i0, hi, hz0, hz1, hz2⟩ := info_parts info7p
  have hlen := cnt_len r
  obtain ⟨l, e1, e2, e3⟩ := cells_of_atM hat
  have HE3 : Hid (∀ e ∈ l, ElM (fun x => S x ∧ x < w.heap.size) w e) := fun e he => (e3 e he).mono (fun x hx hS => ⟨hS, hx⟩)
  have hll : l.length = r.len := by rw [← e1, rowE_len]
  have HC : Hid (∀ e ∈ l, TwinC e.p) := partsOk_mem (by rw [e1]; exact hC)
  have HCN : Hid (∀ e ∈ l, cnt e.p ≤ 262144) := fun e he => by have := cnt_mem he; rw [e1] at this; omega
  have HE1 := hide e1
  have HE2 := hide e2
  have HM := hide (⟨h1, h2, h3, h4, h5⟩ : r.len + 1 ≤ cap ∧ cap ≤ maxLen ∧ b < w.heap.size ∧ S b ∧ w.cell? ⟨b, r.len * 7, none⟩ = some (.int .i64 (-99)))
  have HONE : Hid (∀ u ∈ flatE l, u.oneCell' = true) := by
    intro u hu
    obtain ⟨e, he, hu⟩ := List.mem_flatMap.1 hu
    exact (e3 e he).one u hu
  have HLB : Hid (r.len ≤ 262144) := by unfold Hid; omega
  clear hC hat e3 h5 h4 hcn
  generalize hL : r.len = L at *
  have HL := hide hL
  have HLL := hide hll
  clear hL hll e1 e2
  have HI := hide (⟨hi, hz0, hz1, hz2⟩ : _ ∧ _ ∧ _ ∧ _)
  clear hi hz0 hz1 hz2
  have HO1 := hide (ownV_new_nil w)
  have HK1 : Hid (Kept [] w (w.alloc (.cells #[] 54))) := (Kept.refl [] w).alloc _
  have HCE : Hid (∀ j u, (flatE l)[j]? = some u → (w.alloc (.cells #[] 54)).cell? ((⟨b, 0, none⟩ : Addr).add j) = some u) := by
    intro j u hj
    rw [add_none]
    exact ((unhide HK1).cell (p := ⟨b, 0 + j, none⟩) h3 (by simp)).trans (unhide HE2 j u hj)
  have HFL : Hid ((flatE l).length = L * 7) := by unfold Hid; rw [flatE_len, unhide HLL]
  go_enter Try.func12, Try.ntmps12
  go_wp2_with (at_builtin; refine wpList_append_own_at _ rfl _ _ 28 rfl w.heap.size 54 i0 _ 7 96 Try.underlying28 (unhide HI).1 (unhide HI).2.1 (unhide HI).2.2.1 (unhide HI).2.2.2 rfl (by decide) _ 0 (flatE []) rfl (unhide HO1) ⟨b, 0, none⟩ L cap (flatE l) rfl (unhide HFL) (unhide HCE) (unhide HONE) (by unfold maxLen; have := unhide HLB; omega) (by have := unhide HLB; omega) ((unhide HK1).size) ?_)
  intro v' w1 ho1 hg1 hl1 hs1
  have hne : v' ≠ .slice none 0 0 := by
    intro e
    rw [e] at hs1
    rcases hs1 with h | h <;> cases h
  obtain ⟨g, cap', rfl, hgB, hgs, hcl, hcm⟩ := ownV_some ho1 hne
  have HTI : Hid (TwI S w w1 g cap' L l 0 [] l) := by
    refine ⟨rfl, rfl, ?_, by simp, (unhide HK1).grown hg1 (fun k hk => Or.inr ((unhide HO1).lt k hk).1)⟩
    exact ho1
  clear ho1 hg1 hl1 hs1 hne
  unfold maxLen at hcm
  have hLcap : L ≤ cap' := by omega
  have hgb : Hid (g < w1.heap.size) := hgs
  clear hgs hcl
  go_wp2_with fail
  go_loopw [4] (fun i wr => ∃ (k : Nat) (d : List (El × Value)) (s : List El), i = .int .i64 k ∧ k + s.length = L ∧ g < wr.heap.size ∧ TwI S w wr g cap' L l k d s) (fun i _ => L - (intOf i).toNat)
  case atStart => exact ⟨0, [], l, rfl, by rw [unhide HLL]; omega, unhide hgb, unhide HTI⟩
  case round =>
    obtain ⟨k, d, s, rfl, hk, hgw, hti⟩ := hrel
    have HT := hide hti
    cases s with
    | nil =>
      simp only [List.length_nil, Nat.add_zero] at hk
      subst hk
      have t1 : ((k : Int) < (k : Int)) = False := by simp
      clear hti
      go_wp2
      go_ret
      obtain ⟨t1, t2, t3, t4, t5⟩ := unhide HT
      obtain ⟨m1, m2, m3, m4, m5⟩ := unhide HM
      rw [List.append_nil] at t2 t3
      refine ⟨g, cap', rfl, ⟨b, cap, g, cap', by rw [unhide HL], by rw [unhide HL]; exact m1, m2, Nat.lt_of_lt_of_le m3 t5.size, Or.inl m4, by rw [unhide HL]; exact (t5.cell (p := ⟨b, k * 7, none⟩) m3 (by simp)).trans m5, by rw [unhide HL], by rw [unhide HL]; exact hLcap, by unfold maxLen; omega, hgw, Or.inr hgB, ?_⟩, t5⟩
      rw [← unhide HE1, ← t2]
      refine AtK.mono (S := fun x => (S x ∨ w.heap.size ≤ x) ∧ x ≠ g) (fun x _ hx => hx.1) (atK_of_cells (fun j u hj => ?_) (fun j u hj => ?_) t4)
      · rw [t2] at hj
        exact (t5.cell (p := ⟨b, 0 + j, none⟩) m3 (by simp)).trans (unhide HE2 j u hj)
      · rw [Nat.zero_add]
        exact ownV_cell t3 hj
    | cons e s =>
      simp only [List.length_cons] at hk
      have hmem : e ∈ l := by rw [← hti.2.1]; simp
      have t1 : (k : Int) < (L : Int) := by omega
      have c6 := hti.load
      have HEM := hide (unhide HE3 e hmem)
      have hpv := (unhide HEM).2.2
      have HTC := hide (unhide HC e hmem _ wr _ (hpv.kept hti.2.2.2.2 (by simp)) (unhide HCN e hmem))
      obtain ⟨pb, pc, hpv1, -⟩ := hpv
      have HPV := hide hpv1
      rw [hpv1] at c6 HTC
      have f6 := ownV_frozen hti.2.2.1
      have HOW := hide hti.2.2.1
      clear hpv1 hti hmem
      generalize hPL : e.p.len = PL at *
      have HPL := hide hPL
      clear hPL f6
      go_wp2_with (first
        | (go_at_call 12; refine (unhide HTC).mono ?_; rintro x w2 ⟨qc, qcap, rfl, hrk, hk2⟩; have ho2 := own_kept (unhide HOW) hk2 (by simp); have f2 := ownV_frozen ho2; have c2 := (hk2.cell (p := ⟨g, k * 7 + 6, none⟩) hgw (by simp)).trans c6; have HRK := hide hrk; have HK2 := hide hk2; clear hrk hk2 ho2 c6 HTC HOW))
      refine ⟨⟨k + 1, _, s, by simp, by omega, ?_, TwI.step (unhide HT) hgB hgw (unhide HEM) (unhide HK2) (by rw [unhide HPV]; exact unhide HRK)⟩, by simp [intOf]; omega⟩
      have := (unhide HK2).size
      simp [World.setCell]
      omega
end Go.Proofs.Ytigmofbammofbaa
