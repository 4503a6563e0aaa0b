/- The document's Query and Floor. -/
import Derived.Test.YtgiifedljebclaaRRef
namespace Go.Proofs.Ytgiifedljebclaa.ref
open Go.RowKit

theorem own_at {w : World} {base : Nat} {a : Option Addr} {L cap : Nat} {es : List (En Wc)} (ho : w.ownsRow base 85 4 (.slice a L cap) L (flatR es)) {i : Nat} {e : En Wc} (he : es[i]? = some e) :
    ∃ g, a = some ⟨g, 0, none⟩ ∧ w.cell? ⟨g, i * 4, none⟩ = some (.int .i64 (e.v.1 : Int)) ∧ w.cell? ⟨g, i * 4 + 1, none⟩ = some (.int .i64 e.v.2) ∧ w.cell? ⟨g, i * 4 + 2, none⟩ = some (.int .i64 (e.g : Int)) ∧ w.cell? ⟨g, i * 4 + 3, none⟩ = some (.int .i64 (e.d : Int)) := by
  have hi := (List.getElem?_eq_some_iff.1 he).1
  rcases ho.2 with ⟨h1, h2⟩ | ⟨g, cp, cur, hv, _, hg, _⟩
  · have := ho.1; rw [flatR_len] at this; omega
  · have hcs : ∀ j u, (flatR es)[j]? = some u → w.cell? ⟨g, j, none⟩ = some u := by
      intro j u hj
      have := ho.cells (g := g) (by rw [hv]; rfl) j u hj
      have hadd : (⟨g, 0, none⟩ : Addr).add j = ⟨g, j, none⟩ := by unfold Addr.add; split <;> simp_all
      rwa [hadd] at this
    obtain ⟨a0, a1, a2, a3⟩ := flatR_at he
    cases hv
    exact ⟨g, rfl, hcs _ _ a0, hcs _ _ a1, hcs _ _ a2, hcs _ _ a3⟩
theorem sum_take {α : Type} (es : List (En α)) {i : Nat} {e : En α} (h : es[i]? = some e) : sumg (es.take (i + 1)) = sumg (es.take i) + e.g := by
  rw [List.take_add_one, h, sumg_app]; simp [sumg]
theorem sum_le {α : Type} (es : List (En α)) (i : Nat) : sumg (es.take i) ≤ sumg es := by
  conv => rhs; rw [← List.take_append_drop i es, sumg_app]
  omega

set_option maxHeartbeats 1000000 in
set_option maxRecDepth 100000 in
theorem rfloor_any {w : World} {b inv n i : Nat} {es : List (En Wc)} {v : Value} (hs : Rf w b inv n es v) (hf : Fit gtC n es) (hn : n ≤ 549755813888) (hi : i < es.length) :
    Calls Try.prog 50 #[.pointer (some ⟨b, 0, none⟩), .int .i64 i] w fun e w' => e = .returned (.int .i64 (sumg (es.take (i + 1)) : Nat)) ∧ Quiet w w' := by
  have hlen := hf.len
  have HF := hide hf
  obtain ⟨va, vc, rfl⟩ := own_len hs.row
  have c2 := hs.blk.cell 2
  simp at c2
  have HO := hide hs.row
  clear hs hf
  generalize hL : es.length = L at *
  have HL := hide hL
  clear hL
  go_enter Try.func50, Try.ntmps50
  go_wp2_with fail
  go_loopw [5, 6] (fun s4 s5 wr => ∃ k : Nat, k ≤ i + 1 ∧ s4 = .int .i64 (sumg (es.take k) : Nat) ∧ s5 = .int .i64 k ∧ Quiet w wr) (fun _ s5 _ => i + 1 - (intOf s5).toNat)
  case atStart => exact ⟨0, by omega, by simp [sumg], rfl, Quiet.refl _⟩
  case round =>
    obtain ⟨k, hk, rfl, rfl, hqu⟩ := hrel
    have d2 := (hqu.cell ⟨b, 2, none⟩).trans c2
    have HQU := hide hqu
    have hs1 := sum_le es k
    have hs3 := (unhide HF).sum
    by_cases hki : k ≤ i
    · have t1 : ((k : Int) ≤ (i : Int)) = True := by simp; omega
      obtain ⟨e, he⟩ : ∃ e, es[k]? = some e := ⟨_, List.getElem?_eq_getElem (by rw [unhide HL]; omega)⟩
      obtain ⟨g, rfl, e0, e1, e2, e3⟩ := own_at (own_kept (unhide HO) hqu.kept (by simp)) he
      have HST := hide (sum_take es he)
      have hb2 := sum_le es (k + 1)
      have hb3 : sumg (es.take k) + e.g ≤ 549755813888 := by rw [← sum_take es he]; omega
      have hkL : k < L := by omega
      obtain ⟨⟨ew, ec⟩, eg, ed⟩ := e
      simp only at e0 e1 e2 e3 hb3
      clear hqu he hs1 hs3 hb2
      generalize sumg (es.take k) = sm at *
      go_wp2_with fail
      first
        | exact ⟨⟨k + 1, by omega, by rw [unhide HST]; simp, by simp, unhide HQU⟩, by simp [intOf]; omega⟩
        | (go_region
           all_goals go_wp2_with fail
           all_goals exact ⟨⟨k + 1, by omega, by rw [unhide HST]; simp, by simp, (unhide HQU).drew⟩, by simp [intOf]; omega⟩)
    · obtain rfl : k = i + 1 := by omega
      have t1 : (((i + 1 : Nat) : Int) ≤ (i : Int)) = False := by simp; omega
      clear hqu hs1 hs3
      go_wp2_with fail
      go_ret
      exact ⟨rfl, unhide HQU⟩

def nst {α : Type} (r f : Nat) (b : Option (α × Int)) (e : En α) : Option (α × Int) := match b with
  | none => some (e.v, dist r f e)
  | some (v, m) => if dist r f e < m then some (e.v, dist r f e) else some (v, m)
theorem near_snoc {α : Type} (r : Nat) (l : List (En α)) (e : En α) : ∀ f b, nearGo r f b (l ++ [e]) = nst r (f + sumg l) (nearGo r f b l) e := by
  induction l with
  | nil => intro f b; rw [sumg_nil, Nat.add_zero]; rfl
  | cons x l ih => intro f b; simp only [List.cons_append, nearGo, ih, sumg_cons]; congr 1; omega
theorem near_take {α : Type} (r : Nat) (es : List (En α)) {k : Nat} {e : En α} (he : es[k]? = some e) : nearGo r 0 none (es.take (k + 1)) = nst r (sumg (es.take k)) (nearGo r 0 none (es.take k)) e := by
  rw [List.take_add_one, he, Option.toList_some, near_snoc, Nat.zero_add]

set_option maxHeartbeats 1000000 in
set_option maxRecDepth 100000 in
theorem rquery_none {w : World} {b inv n : Nat} {es : List (En Wc)} {v : Value} (hs : Rf w b inv n es v) (r : Int) (h : r < 1 ∨ (n : Int) < r) :
    Calls Try.prog 20 #[.pointer (some ⟨b, 0, none⟩), .int .i64 r] w fun e w' => e = .returned (.tuple #[.int .i64 0, .int .i64 60]) ∧ w' = w := by
  have c1 := hs.blk.cell 1
  simp at c1
  clear hs
  by_cases h1 : r < 1
  · go_enter Try.func20, Try.ntmps20
    go_wp2
    go_ret2
    exact ⟨rfl, rfl⟩
  · have h3 : (n : Int) < r := by omega
    clear h
    go_enter Try.func20, Try.ntmps20
    go_wp2
    go_ret2
    exact ⟨rfl, rfl⟩

set_option maxHeartbeats 2000000 in
set_option maxRecDepth 100000 in
theorem rquery_any {w : World} {b inv n : Nat} {es : List (En Wc)} {v : Value} (hs : Rf w b inv n es v) (hf : Fit gtC n es) (hn : n ≤ 549755813888) (r : Nat) (h1 : 1 ≤ r) (hr : r ≤ n) :
    Calls Try.prog 20 #[.pointer (some ⟨b, 0, none⟩), .int .i64 (r : Int)] w fun e w' => e = .returned (.tuple #[.int .i64 ((nearE (0, 0) r es).1 : Int), .int .i64 0]) ∧ Quiet w w' := by
  have hlen := hf.len
  have hne : 0 < es.length := by
    cases es with
    | nil => have := hf.sum; simp [sumg] at this; omega
    | cons a l => simp
  have HF := hide hf
  obtain ⟨va, vc, rfl⟩ := own_len hs.row
  have c1 := hs.blk.cell 1
  have c2 := hs.blk.cell 2
  simp at c1 c2
  have HO := hide hs.row
  clear hs hf
  generalize hL : es.length = L at *
  have HL := hide hL
  clear hL
  have u1 : ((r : Int) < 1) = False := by simp; omega
  have u2 : ((n : Int) < (r : Int)) = False := by simp; omega
  go_enter Try.func20, Try.ntmps20
  go_wp2_with fail
  go_loopw [6, 7, 8, 9] (fun s6 s7 s8 s9 wr => ∃ k : Nat, k ≤ L ∧ s8 = .int .i64 (sumg (es.take k) : Nat) ∧ s9 = .int .i64 k ∧ Quiet w wr ∧
      (k = 0 ∧ s6 = .int .i64 (-1) ∧ s7 = .int .i64 0 ∨ ∃ (j : Nat) (m : Int) (e : En Wc), j < k ∧ es[j]? = some e ∧ nearGo r 0 none (es.take k) = some (e.v, m) ∧ s6 = .int .i64 j ∧ s7 = .int .i64 m)) (fun _ _ _ s9 _ => L - (intOf s9).toNat)
  case atStart => exact ⟨0, by omega, by simp [sumg], rfl, Quiet.refl _, Or.inl ⟨rfl, rfl, rfl⟩⟩
  case round =>
    obtain ⟨k, hk, rfl, rfl, hqu, hcase⟩ := hrel
    have d2 := (hqu.cell ⟨b, 2, none⟩).trans c2
    have HQU := hide hqu
    have hs1 := sum_le es k
    have hs3 := (unhide HF).sum
    by_cases hkL : k < L
    · have t1 : ((k : Int) < (L : Int)) = True := by simp; omega
      obtain ⟨e, he⟩ : ∃ e, es[k]? = some e := ⟨_, List.getElem?_eq_getElem (by rw [unhide HL]; omega)⟩
      obtain ⟨g, rfl, e0, e1, e2, e3⟩ := own_at (own_kept (unhide HO) hqu.kept (by simp)) he
      have HST := hide (sum_take es he)
      have HNT := hide (near_take r es he)
      have hb2 := sum_le es (k + 1)
      have hb3 : sumg (es.take k) + e.g ≤ 549755813888 := by rw [← sum_take es he]; omega
      have hwd := ((unhide HF).wd (List.mem_of_getElem? he)).2
      have HE := hide he
      obtain ⟨⟨ew, ec⟩, eg, ed⟩ := e
      simp only [En.wd] at e0 e1 e2 e3 hb3 hwd
      have HDI : Hid (dist r (sumg (es.take k)) (⟨(ew, ec), eg, ed⟩ : En Wc) = max ((r : Int) - ((sumg (es.take k) : Int) + (eg : Int))) ((sumg (es.take k) : Int) + (eg : Int) + (ed : Int) - (r : Int))) := rfl
      clear hqu he hs1 hs3 hb2
      generalize sumg (es.take k) = sm at *
      obtain ⟨D, hD, hcmp⟩ : ∃ D : Int, max ((r : Int) - ((sm : Int) + (eg : Int))) ((sm : Int) + (eg : Int) + (ed : Int) - (r : Int)) = D ∧
          (((r : Int) - ((sm : Int) + (eg : Int)) < (sm : Int) + (eg : Int) + (ed : Int) - (r : Int)) = True ∧ D = (sm : Int) + (eg : Int) + (ed : Int) - (r : Int) ∨ ((r : Int) - ((sm : Int) + (eg : Int)) < (sm : Int) + (eg : Int) + (ed : Int) - (r : Int)) = False ∧ D = (r : Int) - ((sm : Int) + (eg : Int))) := by
        refine ⟨_, rfl, ?_⟩
        by_cases h : (r : Int) - ((sm : Int) + (eg : Int)) < (sm : Int) + (eg : Int) + (ed : Int) - (r : Int)
        · exact Or.inl ⟨eq_true h, by omega⟩
        · exact Or.inr ⟨eq_false h, by omega⟩
      rw [hD] at HDI
      clear hD
      rcases hcase with ⟨rfl, rfl, rfl⟩ | ⟨j, m, ej, hj, hej, hnj, rfl, rfl⟩
      · have HN0 : Hid (nearGo r 0 none (es.take (0 + 1)) = some ((ew, ec), D)) := by
          have := unhide HNT
          rw [← unhide HDI]
          exact this
        clear HNT HDI
        rcases hcmp with ⟨t2, rfl⟩ | ⟨t2, rfl⟩
        · go_wp2_with fail
          exact ⟨⟨1, by omega, by rw [unhide HST]; simp, rfl, unhide HQU, Or.inr ⟨0, _, _, by omega, unhide HE, unhide HN0, rfl, rfl⟩⟩, by simp [intOf]; omega⟩
        · go_wp2_with fail
          exact ⟨⟨1, by omega, by rw [unhide HST]; simp, rfl, unhide HQU, Or.inr ⟨0, _, _, by omega, unhide HE, unhide HN0, rfl, rfl⟩⟩, by simp [intOf]; omega⟩
      · rw [hnj] at HNT
        have HN1 : Hid (nearGo r 0 none (es.take (k + 1)) = if D < m then some ((ew, ec), D) else some (ej.v, m)) := by
          have := unhide HNT
          rw [← unhide HDI]
          exact this
        have HEJ := hide hej
        clear HNT HDI hnj hej
        have t3 : ((j : Int) < 0) = False := by simp
        by_cases hdm : D < m
        · rw [if_pos hdm] at HN1
          rcases hcmp with ⟨t2, rfl⟩ | ⟨t2, rfl⟩
          · have t4 : ((sm : Int) + (eg : Int) + (ed : Int) - (r : Int) < m) = True := eq_true hdm
            go_wp2_with fail
            exact ⟨⟨k + 1, by omega, by rw [unhide HST]; simp, by simp, unhide HQU, Or.inr ⟨k, _, _, by omega, unhide HE, unhide HN1, rfl, rfl⟩⟩, by simp [intOf]; omega⟩
          · have t4 : ((r : Int) - ((sm : Int) + (eg : Int)) < m) = True := eq_true hdm
            go_wp2_with fail
            exact ⟨⟨k + 1, by omega, by rw [unhide HST]; simp, by simp, unhide HQU, Or.inr ⟨k, _, _, by omega, unhide HE, unhide HN1, rfl, rfl⟩⟩, by simp [intOf]; omega⟩
        · rw [if_neg hdm] at HN1
          rcases hcmp with ⟨t2, rfl⟩ | ⟨t2, rfl⟩
          · have t4 : ((sm : Int) + (eg : Int) + (ed : Int) - (r : Int) < m) = False := eq_false hdm
            go_wp2_with fail
            exact ⟨⟨k + 1, by omega, by rw [unhide HST]; simp, by simp, unhide HQU, Or.inr ⟨j, m, ej, by omega, unhide HEJ, unhide HN1, rfl, rfl⟩⟩, by simp [intOf]; omega⟩
          · have t4 : ((r : Int) - ((sm : Int) + (eg : Int)) < m) = False := eq_false hdm
            go_wp2_with fail
            exact ⟨⟨k + 1, by omega, by rw [unhide HST]; simp, by simp, unhide HQU, Or.inr ⟨j, m, ej, by omega, unhide HEJ, unhide HN1, rfl, rfl⟩⟩, by simp [intOf]; omega⟩
    · obtain rfl : k = L := by omega
      have t1 : ((k : Int) < (k : Int)) = False := by simp
      have hte : es.take k = es := List.take_of_length_le (by rw [unhide HL]; omega)
      rw [hte] at hcase
      rcases hcase with ⟨h0, _⟩ | ⟨j, m, ej, hj, hej, hnj, rfl, rfl⟩
      · omega
      · have HV : Hid (nearE (0, 0) r es = ej.v) := (show _ = _ by unfold nearE; rw [hnj])
        obtain ⟨g, rfl, e0, e1, e2, e3⟩ := own_at (own_kept (unhide HO) hqu.kept (by simp)) hej
        clear hnj hej hqu hs1 hs3 hte
        go_wp2_with fail
        first
          | (go_ret2
             rw [unhide HV]
             exact ⟨rfl, unhide HQU⟩)
          | (go_region
             all_goals go_wp2_with fail
             all_goals go_ret2
             all_goals rw [unhide HV]
             all_goals exact ⟨rfl, (unhide HQU).drew⟩)
end Go.Proofs.Ytgiifedljebclaa.ref
