/- The document's Add. -/
import Derived.Test.YtgiifedljebclaaRRef
import Derived.Deep.RegionHeld3
import Derived.Deep.DeepCutAuto
namespace Go.Proofs.Ytgiifedljebclaa.ref
open Go.RowKit

theorem world_at {R C : World → Prop} {x : World} (h : R x) (H : ∀ wr, R wr → C wr) : C x := H x h
theorem rise_at {es : List (En Wc)} (hr : es.Pairwise fun a b => gtC a.v b.v = false) {x : Wc} {j : Nat} {e : En Wc} (h : es[j]? = some e) : gtC e.v x = decide (plc gtC es x ≤ j) := by
  obtain ⟨hj, rfl⟩ := List.getElem?_eq_some_iff.1 h
  by_cases hp : plc gtC es x ≤ j
  · rw [plc_behind behindC hr hj hp]; simp [hp]
  · rw [plc_ahead (gt := gtC) (x := x) hj (by omega)]; simp [hp]
theorem own_at {w : World} {base : Nat} {a : Option Addr} {L cap : Nat} {es : List (En Wc)} (ho : w.ownsRow base 85 4 (.slice a L cap) L (flatR es)) {i : Nat} {e : En Wc} (he : es[i]? = some e) :
    ∃ g, a = some ⟨g, 0, none⟩ ∧ w.cell? ⟨g, i * 4, none⟩ = some (.int .i64 (e.v.1 : Int)) ∧ w.cell? ⟨g, i * 4 + 1, none⟩ = some (.int .i64 e.v.2) ∧ w.cell? ⟨g, i * 4 + 2, none⟩ = some (.int .i64 (e.g : Int)) ∧ w.cell? ⟨g, i * 4 + 3, none⟩ = some (.int .i64 (e.d : Int)) := by
  have hi := (List.getElem?_eq_some_iff.1 he).1
  rcases ho.2 with ⟨h1, h2⟩ | ⟨g, cp, cur, hv, _, hg, _⟩
  · have := ho.1; rw [flatR_len] at this; omega
  · have hcs : ∀ j u, (flatR es)[j]? = some u → w.cell? ⟨g, j, none⟩ = some u := by
      intro j u hj
      have := ho.cells (g := g) (by rw [hv]; rfl) j u hj
      have hadd : (⟨g, 0, none⟩ : Addr).add j = ⟨g, j, none⟩ := by unfold Addr.add; split <;> simp_all
      rwa [hadd] at this
    obtain ⟨a0, a1, a2, a3⟩ := flatR_at he
    cases hv
    exact ⟨g, rfl, hcs _ _ a0, hcs _ _ a1, hcs _ _ a2, hcs _ _ a3⟩

theorem reads_one {w : World} {B : Nat} {t : TypeId} {a g d : Nat} {c : Int} (hb : Blk w B #[.int .i64 (a : Int), .int .i64 c, .int .i64 (g : Int), .int .i64 (d : Int)] t) : Reads w (.slice (some ⟨B, 0, none⟩) 1 1) [⟨(a, c), g, d⟩] := by
  refine ⟨_, 1, rfl, Nat.le_refl _, Or.inr ⟨B, 0, rfl, hb.lt, fun j u hj => ?_⟩⟩
  rw [Nat.zero_add, hb.cell j]
  simpa [flatR, ecells] using hj

/-- the state of the pressing -/
structure PS (W3 : World) (b inv n bd : Nat) (all : List (En Wc)) (wr : World) (I : Int) (row : List (En Wc)) (a : Option Addr) (L c : Nat) : Prop where
  blk : Blk wr b #[.int .i64 (inv : Int), .int .i64 ((n : Int) + 1), .slice a L c] 78
  own : wr.ownsRow W3.heap.size 85 4 (.slice a L c) L (flatR row)
  kept : Kept [b] W3 wr
  len : row.length = L
  fit : Fit gtC (n + 1) row
  st : (∃ f M Hd, I = (List.length M : Int) ∧ row = f :: (M.reverse ++ Hd) ∧ Hd ≠ [] ∧ press bd all = f :: sweep bd M Hd) ∨ (I = -1 ∧ row = press bd all)
theorem ps_begin {bd : Nat} {all : List (En Wc)} (h : all ≠ []) : (∃ f M Hd, (all.length : Int) - 2 = (List.length M : Int) ∧ all = f :: (M.reverse ++ Hd) ∧ Hd ≠ [] ∧ press bd all = f :: sweep bd M Hd) ∨ ((all.length : Int) - 2 = -1 ∧ all = press bd all) := by
  cases all with
  | nil => exact absurd rfl h
  | cons f tl =>
    cases hr : tl.reverse with
    | nil =>
      have : tl = [] := by simpa using hr
      subst this
      exact Or.inr ⟨by simp, rfl⟩
    | cons l m =>
      have ht : tl = m.reverse ++ [l] := by
        have := congrArg List.reverse hr
        simpa using this
      refine Or.inl ⟨f, m, [l], ?_, by rw [ht], by simp, ?_⟩
      · rw [ht]; simp; omega
      · simp [press, hr]
theorem sweep_stay {bd : Nat} {e h : En Wc} (M t : List (En Wc)) (hn : ¬ e.g + h.wd ≤ bd) : sweep bd (e :: M) (h :: t) = sweep bd M (e :: h :: t) := by
  rw [sweep, if_neg hn]
theorem sweep_merge {bd : Nat} {e h : En Wc} (M t : List (En Wc)) (hn : e.g + h.wd ≤ bd) : sweep bd (e :: M) (h :: t) = sweep bd M (⟨h.v, h.g + e.g, h.d⟩ :: t) := by
  rw [sweep, if_pos hn]
theorem own_base {w : World} {B B' e s n : Nat} {v : Value} {xs : List Value} (h : w.ownsRow B e s v n xs) (hB : B' ≤ B) : w.ownsRow B' e s v n xs := by
  refine ⟨h.1, ?_⟩
  rcases h.2 with h2 | ⟨g, cap, cur, hv, hg, r⟩
  · exact Or.inl h2
  · exact Or.inr ⟨g, cap, cur, hv, Nat.le_trans hB hg, r⟩
theorem PS.keepX {W3 : World} {b inv n bd bx : Nat} {all : List (En Wc)} {wr X : World} {I : Int} {row : List (En Wc)} {a : Option Addr} {L c : Nat} (h : PS W3 b inv n bd all wr I row a L c) (hk : Kept [bx] wr X) (hb : b < bx) (hg : ∀ q, (Value.slice a L c).ownBlock = some q → q < bx) (hW : W3.heap.size ≤ bx) : PS W3 b inv n bd all X I row a L c :=
  ⟨h.blk.kept hk (by simp; omega), own_kept h.own hk (fun q hq hm => by have := hg q hq; simp at hm; omega), h.kept.trans hk (fun y hy => Or.inr (by simp at hy; omega)), h.len, h.fit, h.st⟩
theorem ps_next {W3 : World} {b inv n bd : Nat} {all : List (En Wc)} {U w' : World} {row : List (En Wc)} {a va : Option Addr} {L c vc i : Nat} {f e h : En Wc} {M t : List (En Wc)} (hp : PS W3 b inv n bd all U (i : Int) row a L c) (h1 : w'.ownsRow U.heap.size 85 4 (.slice va (L - 1) vc) (L - 1) (flatR (row.take i ++ [⟨h.v, h.g + e.g, h.d⟩] ++ row.drop (i + 2)))) (h2 : Kept [] U w') (hrow : row = f :: (M.reverse ++ e :: h :: t)) (hi : i = List.length M + 1) (hpr : press bd all = f :: sweep bd (e :: M) (h :: t)) (hle : e.g + h.wd ≤ bd) (hb : b < W3.heap.size) :
    Hid (PS W3 b inv n bd all (w'.setCell ⟨b, 2, none⟩ (.slice va (L - 1) vc)) ((i : Int) - 1) (f :: (M.reverse ++ ⟨h.v, h.g + e.g, h.d⟩ :: t)) va (L - 1) vc) := by
  have hk : Kept [b] w' (w'.setCell ⟨b, 2, none⟩ (.slice va (L - 1) vc)) := (Kept.refl [b] w').setCell (p := ⟨b, 2, none⟩) (Or.inl (by simp)) _
  have hrw : row.take i ++ [(⟨h.v, h.g + e.g, h.d⟩ : En Wc)] ++ row.drop (i + 2) = f :: (M.reverse ++ ⟨h.v, h.g + e.g, h.d⟩ :: t) := by
    rw [hrow, hi]
    have e1 : (f :: (M.reverse ++ e :: h :: t)).take (M.length + 1) = f :: M.reverse := by simp
    have e2 : (f :: (M.reverse ++ e :: h :: t)).drop (M.length + 1 + 2) = t := by simp [List.drop_append]
    rw [e1, e2]
    simp
  have hWU := hp.kept.size
  rw [hrw] at h1
  refine ⟨(hp.blk.kept h2 (by simp)).set 2 _, ?_, (hp.kept.trans h2 (by simp)).trans hk (fun y hy => Or.inl hy), ?_, ?_, Or.inl ⟨f, M, _, by rw [hi]; simp, rfl, by simp, by rw [hpr, sweep_merge M t hle]⟩⟩
  · exact own_kept (own_base h1 hWU) hk (fun q hq hm => by have := (h1.lt q hq).1; simp at hm; omega)
  · have := hp.len
    rw [hrow] at this
    simp at this ⊢
    omega
  · have := hp.fit
    rw [hrow] at this
    exact fit_merge this
theorem PS.keep {W3 : World} {b inv n bd : Nat} {all : List (En Wc)} {wr X : World} {I : Int} {row : List (En Wc)} {a : Option Addr} {L c : Nat} (h : PS W3 b inv n bd all wr I row a L c) (hk : Kept [] wr X) : PS W3 b inv n bd all X I row a L c :=
  ⟨h.blk.kept hk (by simp), own_kept h.own hk (by simp), h.kept.trans hk (by simp), h.len, h.fit, h.st⟩
theorem ps_end {bd : Nat} {all row : List (En Wc)} {I : Int} (hI : ¬ 0 < I) (h : (∃ f M Hd, I = (List.length M : Int) ∧ row = f :: (M.reverse ++ Hd) ∧ Hd ≠ [] ∧ press bd all = f :: sweep bd M Hd) ∨ (I = -1 ∧ row = press bd all)) : row = press bd all := by
  rcases h with ⟨f, M, Hd, h1, h2, _, h4⟩ | ⟨_, h⟩
  · have : M = [] := by
      cases M with
      | nil => rfl
      | cons e M => simp at h1; omega
    subst this
    rw [h2, h4]
    rfl
  · exact h

set_option maxHeartbeats 8000000 in
set_option maxRecDepth 100000 in
theorem radd_any {w : World} {b inv n : Nat} {es : List (En Wc)} {v : Value} (hs : Rf w b inv n es v) (hf : Fit gtC n es) (h2 : 2 ≤ inv) (hi : inv ≤ 1024) (hn : n < 549755813888) (x : Int) :
    Calls Try.prog 18 #[.pointer (some ⟨b, 0, none⟩), .int .i64 x] w fun e w' => e = .returned (.int .i64 0) ∧ ∃ v', Rf w' b inv (n + 1) (stepE gtC inv n es (n, x)) v' ∧ Kept [b] w w' ∧ ∀ k, v'.ownBlock = some k → w.heap.size ≤ k := by
  have hlen := hf.len
  have hpl := plc_le gtC es (n, x)
  have HS := hide hs
  have HF := hide hf
  obtain ⟨va, vc, rfl⟩ := own_len hs.row
  have c0 := hs.blk.cell 0
  have c1 := hs.blk.cell 1
  have c2 := hs.blk.cell 2
  simp at c0 c1 c2
  have HO := hide hs.row
  clear hs hf
  generalize hL : es.length = L at *
  have HL := hide hL
  clear hL
  generalize hq : plc gtC es (n, x) = q at *
  have HQ := hide hq
  clear hq
  go_enter Try.func18, Try.ntmps18
  go_wp2_with fail
  go_loopw [5] (fun s5 wr => ∃ k : Nat, k ≤ q ∧ s5 = .int .i64 k ∧ Quiet w wr) (fun s5 _ => q - (intOf s5).toNat)
  case atStart => exact ⟨0, by omega, rfl, Quiet.refl _⟩
  case round =>
    obtain ⟨k, hk, rfl, hqu⟩ := hrel
    have d2 := (hqu.cell ⟨b, 2, none⟩).trans c2
    have HQU := hide hqu
    go_upto_region 4 with fail
    go_cut [31] (fun t wc => ∃ W, W = wc ∧ t = .bool (decide (k < q)) ∧ Hid (Quiet w W))
    case first =>
      as_aux_lemma =>
        by_cases hkL : k < L
        · obtain ⟨e, he⟩ : ∃ e, es[k]? = some e := ⟨_, List.getElem?_eq_getElem (by rw [unhide HL]; omega)⟩
          have hgt := rise_at (unhide HF).rise (x := (n, x)) he
          obtain ⟨g, rfl, e0, e1, e2, e3⟩ := own_at (own_kept (unhide HO) hqu.kept (by simp)) he
          rw [unhide HQ] at hgt
          have t1 : ((k : Int) < (L : Int)) = True := by simp; omega
          obtain ⟨⟨ew, ec⟩, eg, ed⟩ := e
          simp only at e0 e1 e2 e3 hgt
          clear hqu he
          by_cases hkq : k < q
          · have t2 : (ec ≤ x) = True := by
              have : gtC (ew, ec) (n, x) = false := by rw [hgt]; simp; omega
              simp [gtC] at this
              exact eq_true this
            clear hgt
            go_wp2_with fail
            go_meet
            exact ⟨_, rfl, by simp [hkq], HQU⟩
          · have t2 : (ec ≤ x) = False := by
              have : gtC (ew, ec) (n, x) = true := by rw [hgt]; simp; omega
              simp [gtC] at this
              exact eq_false (by omega)
            clear hgt
            go_wp2_with fail
            go_meet
            exact ⟨_, rfl, by simp [hkq], HQU⟩
        · have t1 : ((k : Int) < (L : Int)) = False := by simp; omega
          have hkq : ¬ k < q := by omega
          clear hqu
          go_wp2_with fail
          go_meet
          exact ⟨_, rfl, by simp [hkq], HQU⟩
    case rest =>
      obtain ⟨W, rfl, rfl, HQW⟩ := hcut
      by_cases hkq : k < q
      · rw [decide_eq_true hkq]
        go_wp2_with fail
        exact ⟨⟨k + 1, by omega, by simp, unhide HQW⟩, by simp [intOf]; omega⟩
      · rw [decide_eq_false hkq]
        obtain rfl : k = q := by omega
        clear c0 c1 c2 hqu d2
        have hs1 := (unhide HS).keep (unhide HQW).kept (by simp) (by simp)
        have c0 := hs1.blk.cell 0
        have c1 := hs1.blk.cell 1
        have c2 := hs1.blk.cell 2
        simp at c0 c1 c2
        have HS1 := hide hs1
        have HO1 := hide (own_kept (unhide HO) (unhide HQW).kept (by simp))
        clear hs1
        have hkn : k ≤ 549755813888 := by omega
        go_upto_region 7 with fail
        refine world_at (R := fun W1 => Blk W1 W.heap.size #[.int .i64 (n : Int), .int .i64 x, .int .i64 1, .int .i64 0] 85 ∧ Kept [] W W1) ⟨Blk.new W _ _, (Kept.refl [] W).alloc _⟩ ?_
        clear c0 c1 c2
        rintro W1 ⟨hbe, hkw⟩
        have hs2 := (unhide HS1).keep hkw (by simp) (by simp)
        have c0 := hs2.blk.cell 0
        have c1 := hs2.blk.cell 1
        have c2 := hs2.blk.cell 2
        simp at c0 c1 c2
        have HKW := hide hkw
        have HBE := hide hbe
        have HO2 := hide (own_kept (unhide HO1) hkw (by simp))
        have f3 := hbe.frozen 3
        have e3 := hbe.cell 3
        simp at e3
        clear hs2 hkw hbe
        have heb : w.heap.size ≤ W.heap.size := (unhide HQW).kept.size
        generalize W.heap.size = eb at *
        have HEB := hide heb
        clear heb
        go_cut [50] (fun t wc => ∃ W2, W2 = wc ∧ t = .bool (decide (0 < k ∧ k < L)) ∧ Hid (Quiet W1 W2))
        case first =>
          as_aux_lemma =>
            by_cases hk0 : 0 < k
            · have t1 : ((0 : Int) < (k : Int)) = True := by simp; omega
              by_cases hkL : k < L
              · have t2 : ((k : Int) < (L : Int)) = True := by simp; omega
                go_wp2_with fail
                go_meet
                exact ⟨_, rfl, by simp [hk0, hkL], Quiet.refl _⟩
              · have t2 : ((k : Int) < (L : Int)) = False := by simp; omega
                go_wp2_with fail
                go_meet
                exact ⟨_, rfl, by simp [hk0, hkL], Quiet.refl _⟩
            · have t1 : ((0 : Int) < (k : Int)) = False := by simp; omega
              go_wp2_with fail
              go_meet
              exact ⟨_, rfl, by simp [hk0], Quiet.refl _⟩
        case rest =>
          obtain ⟨W2, rfl, rfl, HQ2⟩ := hcut
          have hq2 := unhide HQ2
          replace c0 := (hq2.cell ⟨b, 0, none⟩).trans c0
          replace c1 := (hq2.cell ⟨b, 1, none⟩).trans c1
          replace c2 := (hq2.cell ⟨b, 2, none⟩).trans c2
          replace e3 := (hq2.cell ⟨eb, 3, none⟩).trans e3
          replace f3 := (hq2.frozen ⟨eb, 3, none⟩).trans f3
          have HO3 := hide (own_kept (unhide HO2) hq2.kept (by simp))
          have HBE2 := hide ((unhide HBE).kept hq2.kept (by simp))
          have HS2 := hide (((unhide HS1).keep (unhide HKW) (by simp) (by simp)).keep hq2.kept (by simp) (by simp))
          clear hq2 HBE HO2
          obtain ⟨gp, hgp⟩ : ∃ gp, gapO es k = gp := ⟨_, rfl⟩
          have HGP := hide hgp
          clear hgp
          go_upto_if 50 with fail
          go_cut [] (fun wc => ∃ W3, W3 = wc ∧ Hid (Blk W3 eb #[.int .i64 (n : Int), .int .i64 x, .int .i64 1, .int .i64 (gp : Int)] 85 ∧ Kept [eb] W2 W3))
          case first =>
            as_aux_lemma =>
              by_cases hkk : 0 < k ∧ k < L
              · rw [decide_eq_true hkk]
                obtain ⟨e, he⟩ : ∃ e, es[k]? = some e := ⟨_, List.getElem?_eq_getElem (by rw [unhide HL]; omega)⟩
                obtain ⟨g, rfl, e0, e1, e2, e4⟩ := own_at (unhide HO3) he
                have hw := (unhide HF).wd (List.mem_of_getElem? he)
                have hgp : gp = e.g + e.d - 1 := by
                  rw [← unhide HGP]; unfold gapO; rw [if_neg (by omega), he]; rfl
                obtain ⟨⟨ew, ec⟩, eg, ed⟩ := e
                simp only [En.wd] at e0 e1 e2 e4 hw hgp
                have w1 : IntKind.i64.wrap ((eg : Int) + (ed : Int)) = (eg : Int) + (ed : Int) := by rw [IntKind.wrap_i64]; omega
                have w2 : IntKind.i64.wrap ((eg : Int) + (ed : Int) - 1) = (gp : Int) := by rw [IntKind.wrap_i64]; omega
                have t1 : ((k : Int) < (L : Int)) = True := by simp; omega
                clear he hgp hw e0 e1
                go_wp2_with fail
                go_region
                all_goals
                  go_wp2_with fail
                  go_meet
                  exact ⟨_, rfl, hide ⟨by have h := (unhide HBE2).set 3 (.int .i64 (gp : Int)); exact h, (((Kept.refl [eb] W2).setCell (p := ⟨eb, 3, none⟩) (Or.inl (List.mem_singleton.2 rfl)) _).drew)⟩⟩
              · rw [decide_eq_false hkk]
                have hgp : gp = 0 := by
                  rw [← unhide HGP]; unfold gapO
                  split
                  · rfl
                  · rw [List.getElem?_eq_none (by rw [unhide HL]; omega)]
                subst hgp
                go_wp2_with fail
                go_meet
                exact ⟨_, rfl, hide ⟨unhide HBE2, Kept.refl _ _⟩⟩
          case rest =>
          obtain ⟨W3, rfl, HB3⟩ := hcut
          have hbe := (unhide HS2).blk.lt
          have hneb : b ≠ eb := fun h => by
            have h1 := (unhide HS2).blk
            have h2 := unhide HBE2
            rw [h] at h1
            exact absurd (blk_type h1 h2) (by decide)
          have hvn : (Value.slice va L vc).ownBlock ≠ some eb := fun h => by
            rcases (unhide HO).2 with ⟨h1, _⟩ | ⟨g, cap, cur, hv, _, hg, _⟩
            · rw [h1] at h; cases h
            · rw [hv] at h
              have h3 : g = eb := by simpa [Value.ownBlock] using h
              have h4 := (Array.getElem?_eq_some_iff.1 hg).1
              have h5 := unhide HEB
              subst h3
              exact absurd h4 (Nat.not_lt.2 h5)
          have HS3 := hide ((unhide HS2).keep (unhide HB3).2 (by simpa using hneb) (by intro k hk hm; simp at hm; subst hm; exact hvn hk))
          have HK3 : Hid (Kept [] w W3) := hide ((((unhide HQW).kept.trans (unhide HKW) (by simp)).trans (unhide HQ2).kept (by simp)).trans (unhide HB3).2 (by intro y hy; simp at hy; subst hy; right; exact unhide HEB))
          have HE3 := hide (unhide HB3).1
          clear c0 c1 c2 e3 f3 HB3 HBE2 HS2 HO3 HQ2 HS1 HO1 HKW HQW hbe hneb
          have c0 := (unhide HS3).blk.cell 0
          have c1 := (unhide HS3).blk.cell 1
          have c2 := (unhide HS3).blk.cell 2
          simp at c0 c1 c2
          have hcap : (va = none → L = 0 ∧ vc = 0) ∧ L ≤ vc ∧ ∀ p, va = some p → p = ⟨p.block, 0, none⟩ := by
            rcases (unhide HO).2 with ⟨h1, h2⟩ | ⟨g, cap, cur, hv, _, hg, hc, _⟩
            · cases h1; exact ⟨fun _ => ⟨h2, rfl⟩, by omega, fun p hp => by cases hp⟩
            · cases hv; exact ⟨fun h => (by cases h), hc, fun p hp => by cases hp; rfl⟩
          have HR3 : Hid (W3.ownsRow 0 85 4 (.slice va L vc) L (flatR es)) := hide (by have h := (unhide HS3).row; rw [unhide HL] at h; exact h)
          go_upto_region 10 with fail
          go_cut [7] (fun t wc => ∃ W4, W4 = wc ∧ ∃ a c, t = .slice a k c ∧ Hid (W4.ownsRow W3.heap.size 85 4 (.slice a k c) k (flatR (es.take k))) ∧ Hid (Kept [] W3 W4))
          case first =>
            as_aux_lemma =>
            rcases va with _ | p
            · obtain ⟨hL0, hv0⟩ := hcap.1 rfl
              subst hL0 hv0
              obtain rfl : k = 0 := by omega
              have hes : es = [] := List.eq_nil_of_length_eq_zero (unhide HL)
              subst hes
              clear hcap
              go_wp2_with (first | (at_builtin; refine wpList_app (w0 := W3) (F := []) _ rfl _ _ rfl (xs := []) (ys := []) rfl (hide (by repeat (first | with_reducible exact Kept.refl _ _ | with_reducible refine Kept.drew ?_))) (hide (World.ownsRow_nil _ _ _ _)) (hide rfl) rfl (hide (reads_none _ _)) 0 (hide rfl) (hide (by omega)) ?_; intro va' vc' w' h1 h2 h3))
              go_meet
              exact ⟨_, rfl, _, _, rfl, by simpa using h1, h2⟩
            · obtain hp := hcap.2.2 p rfl
              obtain ⟨g, off, sp⟩ := p
              cases hp
              have hkc : k ≤ vc := by omega
              go_wp2_with (first | (at_builtin; refine wpList_app (w0 := W3) (F := []) _ rfl _ _ rfl (xs := []) (ys := es.take k) rfl (hide (by repeat (first | with_reducible exact Kept.refl _ _ | with_reducible refine Kept.drew ?_))) (hide (World.ownsRow_nil _ _ _ _)) (hide rfl) rfl (hide ((reads_take (unhide HL) (unhide HR3) k (by omega)).keep (F := []) (by repeat (first | with_reducible exact Kept.refl _ _ | with_reducible refine Kept.drew ?_)) (by simp))) k (hide (by have := unhide HL; simp; omega)) (hide (by omega)) ?_; intro va' vc' w' h1 h2 h3))
              go_meet
              exact ⟨_, rfl, _, _, rfl, by simpa using h1, h2⟩
          case rest =>
          obtain ⟨W4, rfl, ra, rc, rfl, HR4, HK4⟩ := hcut
          have HE4 := hide ((unhide HE3).kept (unhide HK4) (by simp))
          have e0 := (unhide HE4).cell 0
          have e1 := (unhide HE4).cell 1
          have e2 := (unhide HE4).cell 2
          have e3 := (unhide HE4).cell 3
          simp at e0 e1 e2 e3
          have HTL : Hid ((es.take k).length = k) := hide (by have := unhide HL; simp; omega)
          go_upto_region 11 with fail
          go_cut [7] (fun t wc => ∃ W5, W5 = wc ∧ ∃ a c, t = .slice a (k + 1) c ∧ Hid (W5.ownsRow W3.heap.size 85 4 (.slice a (k + 1) c) (k + 1) (flatR (es.take k ++ [⟨(n, x), 1, gp⟩]))) ∧ Hid (Kept [] W3 W5))
          case first =>
            as_aux_lemma =>
            go_wp2_with (first | (at_builtin; refine wpList_app (w0 := W3) (F := []) _ rfl _ _ rfl (xs := es.take k) (ys := [⟨(n, x), 1, gp⟩]) rfl (hide ((unhide HK4).alloc _)) (hide (own_kept (unhide HR4) ((Kept.refl [] W4).alloc _) (by simp))) HTL rfl (hide (reads_one (Blk.new _ _ _))) (k + 1) (hide rfl) (hide (by omega)) ?_; intro va' vc' w' h1 h2 h3))
            go_meet
            exact ⟨_, rfl, _, _, rfl, h1, h2⟩
          case rest =>
          obtain ⟨W5, rfl, ra5, rc5, rfl, HR5, HK5⟩ := hcut
          clear e0 e1 e2 e3 HE4 HR4 HK4
          have HS5 := hide ((unhide HS3).keep (unhide HK5) (by simp) (by simp))
          have c0 := (unhide HS5).blk.cell 0
          have c1 := (unhide HS5).blk.cell 1
          have c2 := (unhide HS5).blk.cell 2
          have f2 := (unhide HS5).blk.frozen 2
          simp at c0 c1 c2
          go_upto_region 12 with fail
          go_cut [] (fun wc => ∃ W6, W6 = wc ∧ ∃ a c, Hid (Blk W6 b #[.int .i64 (inv : Int), .int .i64 (n : Int), .slice a (L + 1) c] 78) ∧ Hid (W6.ownsRow W3.heap.size 85 4 (.slice a (L + 1) c) (L + 1) (flatR (addE gtC es (n, x)))) ∧ Hid (Kept [b] W3 W6))
          case first =>
            as_aux_lemma =>
              have HTL5 : Hid ((es.take k ++ [(⟨(n, x), 1, gp⟩ : En Wc)]).length = k + 1) := by unfold Hid; rw [List.length_append, unhide HTL]; rfl
              have HDL : Hid ((es.drop k).length = L - k) := by unfold Hid; rw [List.length_drop, unhide HL]
              have HADD : Hid (es.take k ++ [(⟨(n, x), 1, gp⟩ : En Wc)] ++ es.drop k = addE gtC es (n, x)) := by
                unfold Hid addE insE
                rw [unhide HQ, unhide HGP]
                simp
              have HR5' := hide (own_kept (unhide HR3) (unhide HK5) (by simp))
              have hb5 : b < W5.heap.size := (unhide HS5).blk.lt
              have hbW : b < W3.heap.size := (unhide HS3).blk.lt
              have hN : Hid (k + 1 + (L - k) = L + 1) := by unfold Hid; omega
              have hN2 : Hid (L + 1 ≤ 1099511627776) := by unfold Hid; omega
              have hRD : ∃ v2, Reads W5 v2 (es.drop k) ∧ (va = none ∧ v2 = .slice none (L - k) (vc - k) ∨ ∃ g, va = some ⟨g, 0, none⟩ ∧ (vc = k ∧ v2 = .slice (some ⟨g, 0, none⟩) (L - k) 0 ∨ vc ≠ k ∧ v2 = .slice (some ⟨g, k * 4, none⟩) (L - k) (vc - k))) := by
                rcases hcap with ⟨hc1, hc2, hc3⟩
                rcases va with _ | p
                · obtain ⟨hL0, hv0⟩ := hc1 rfl
                  have hes : es = [] := List.eq_nil_of_length_eq_zero (by rw [unhide HL]; exact hL0)
                  refine ⟨_, ?_, Or.inl ⟨rfl, rfl⟩⟩
                  rw [hes, show L - k = 0 by omega]
                  simp only [List.drop_nil]
                  exact reads_none _ _
                · have hp := hc3 p rfl
                  obtain ⟨g, off, sp⟩ := p
                  cases hp
                  by_cases hvk : vc = k
                  · have hLk : L - k = 0 := by omega
                    refine ⟨_, ?_, Or.inr ⟨g, rfl, Or.inl ⟨hvk, rfl⟩⟩⟩
                    rw [hLk]
                    have : es.drop k = [] := List.drop_eq_nil_of_le (by rw [unhide HL]; omega)
                    rw [this]
                    exact reads_none _ _
                  · refine ⟨_, ?_, Or.inr ⟨g, rfl, Or.inr ⟨hvk, rfl⟩⟩⟩
                    by_cases hkL : k < L
                    · exact reads_drop (unhide HL) (unhide HR5') k hkL (by omega)
                    · have : es.drop k = [] := List.drop_eq_nil_of_le (by rw [unhide HL]; omega)
                      rw [this, show L - k = 0 by omega]
                      exact reads_none _ _
              obtain ⟨v2, hrd, hcase⟩ := hRD
              have HRD := hide hrd
              have hcap2 := hcap.2.1
              have hcap1 := hcap.1
              clear hrd hcap
              rcases hcase with ⟨rfl, rfl⟩ | ⟨g, rfl, ⟨hvk, rfl⟩ | ⟨hvk, rfl⟩⟩
              · obtain ⟨hL0, hv0⟩ := hcap1 rfl
                have hvk : vc = k := by omega
                have s1 : (vc = k) = True := eq_true hvk
                have HL0 := hide hL0
                have HV0 := hide hv0
                have HVK := hide hvk
                clear hL0 hv0 hvk hcap1
                have s2 : ((vc : Int) = (k : Int)) = True := by have := unhide HVK; simp; omega
                have s3 : k ≤ L := by omega
                have s4 : L ≤ vc := by omega
                go_wp2_with (first | (at_builtin; refine wpList_app (w0 := W3) (F := []) _ rfl _ _ rfl (xs := es.take k ++ [⟨(n, x), 1, gp⟩]) (ys := es.drop k) rfl HK5 HR5 HTL5 rfl HRD (L + 1) (hide (by rw [unhide HDL]; omega)) hN2 ?_; intro va' vc' w' h1 h2 h3; have HB6 := hide ((unhide HS3).blk.kept (unhide h2) (by simp)); have d2 := (unhide HB6).cell 2; have g2 := (unhide HB6).frozen 2; simp at d2))
                go_meet
                refine ⟨_, rfl, va', vc', (unhide HB6).set 2 _, ?_, (Kept.mono (unhide h2) (by simp)).setCell (p := ⟨b, 2, none⟩) (Or.inl (by simp)) _⟩
                rw [← unhide HADD]
                exact own_kept (unhide h1) ((Kept.refl [b] w').setCell (p := ⟨b, 2, none⟩) (Or.inl (by simp)) _) (fun q hq hm => by have := ((unhide h1).lt q hq).1; simp at hm; omega)
              · have s1 : (vc = k) = True := eq_true hvk
                have s2 : ((vc : Int) = (k : Int)) = True := by simp; omega
                have s3 : k ≤ L := by omega
                have s4 : L ≤ vc := by omega
                go_wp2_with (first | (at_builtin; refine wpList_app (w0 := W3) (F := []) _ rfl _ _ rfl (xs := es.take k ++ [⟨(n, x), 1, gp⟩]) (ys := es.drop k) rfl HK5 HR5 HTL5 rfl HRD (L + 1) (hide (by rw [unhide HDL]; omega)) hN2 ?_; intro va' vc' w' h1 h2 h3; have HB6 := hide ((unhide HS3).blk.kept (unhide h2) (by simp)); have d2 := (unhide HB6).cell 2; have g2 := (unhide HB6).frozen 2; simp at d2))
                go_meet
                refine ⟨_, rfl, va', vc', (unhide HB6).set 2 _, ?_, (Kept.mono (unhide h2) (by simp)).setCell (p := ⟨b, 2, none⟩) (Or.inl (by simp)) _⟩
                rw [← unhide HADD]
                exact own_kept (unhide h1) ((Kept.refl [b] w').setCell (p := ⟨b, 2, none⟩) (Or.inl (by simp)) _) (fun q hq hm => by have := ((unhide h1).lt q hq).1; simp at hm; omega)
              · have s1 : (vc = k) = False := eq_false hvk
                have s2 : ((vc : Int) = (k : Int)) = False := by simp; omega
                have s3 : k ≤ L := by omega
                have s4 : L ≤ vc := by omega
                go_wp2_with (first | (at_builtin; refine wpList_app (w0 := W3) (F := []) _ rfl _ _ rfl (xs := es.take k ++ [⟨(n, x), 1, gp⟩]) (ys := es.drop k) rfl HK5 HR5 HTL5 rfl HRD (L + 1) (hide (by rw [unhide HDL]; omega)) hN2 ?_; intro va' vc' w' h1 h2 h3; have HB6 := hide ((unhide HS3).blk.kept (unhide h2) (by simp)); have d2 := (unhide HB6).cell 2; have g2 := (unhide HB6).frozen 2; simp at d2))
                go_meet
                refine ⟨_, rfl, va', vc', (unhide HB6).set 2 _, ?_, (Kept.mono (unhide h2) (by simp)).setCell (p := ⟨b, 2, none⟩) (Or.inl (by simp)) _⟩
                rw [← unhide HADD]
                exact own_kept (unhide h1) ((Kept.refl [b] w').setCell (p := ⟨b, 2, none⟩) (Or.inl (by simp)) _) (fun q hq hm => by have := ((unhide h1).lt q hq).1; simp at hm; omega)
          case rest =>
          obtain ⟨W6, rfl, a6, c6, HB6, HO6, HK6⟩ := hcut
          clear c0 c1 c2 f2 HS5 HR5 HK5 hcap HTL
          have hinv2 : 1 ≤ inv / 2 := by omega
          have hFIT := fit_add behindC (unhide HF) (n, x)
          have hAL := addE_len gtC es (n, x)
          rw [unhide HL] at hAL
          have HFIT := hide hFIT
          have HAL := hide hAL
          have HSTEP : Hid (stepE gtC inv n es (n, x) = if (n + 1) % (inv / 2) = 0 then press (2 * (n + 1) / inv) (addE gtC es (n, x)) else addE gtC es (n, x)) := rfl
          clear hFIT hAL
          have c0 := (unhide HB6).cell 0
          have c1 := (unhide HB6).cell 1
          have c2 := (unhide HB6).cell 2
          have f1 := (unhide HB6).frozen 1
          simp at c0 c1 c2
          have w1' : IntKind.i64.wrap ((n : Int) + 1) = (n : Int) + 1 := by rw [IntKind.wrap_i64]; omega
          go_upto_region 14 with fail
          refine world_at (R := fun Y => Blk Y b #[.int .i64 (inv : Int), .int .i64 ((n : Int) + 1), .slice a6 (L + 1) c6] 78 ∧ Y.ownsRow W3.heap.size 85 4 (.slice a6 (L + 1) c6) (L + 1) (flatR (addE gtC es (n, x))) ∧ Kept [b] W3 Y) ⟨(unhide HB6).set 1 _, own_kept (unhide HO6) ((Kept.refl [b] W6).setCell (p := ⟨b, 1, none⟩) (Or.inl (by simp)) _) (fun q hq hm => by have := ((unhide HO6).lt q hq).1; have := (unhide HS3).blk.lt; simp at hm; omega), (unhide HK6).setCell (p := ⟨b, 1, none⟩) (Or.inl (by simp)) _⟩ ?_
          clear c0 c1 c2 f1
          rintro Y ⟨hBY, hOY, hKY⟩
          have c0 := hBY.cell 0
          have c1 := hBY.cell 1
          have c2 := hBY.cell 2
          simp at c0 c1 c2
          have HBY := hide hBY
          have HOY := hide hOY
          have HKY := hide hKY
          clear hBY hOY hKY HB6 HO6 HK6 w1'
          generalize hQ2 : inv / 2 = q2 at *
          have hqi : (inv : Int) / 2 = (q2 : Int) := by rw [← hQ2]; omega
          generalize hR2 : (n + 1) % q2 = r2 at *
          have hri : ((n : Int) + 1) % (q2 : Int) = (r2 : Int) := by rw [← hR2]; push_cast; rfl
          have hri2 : ((n : Int) + 1).tmod (q2 : Int) = (r2 : Int) := by rw [Int.tmod_eq_emod_of_nonneg (by omega)]; exact hri
          have hq0 : ((q2 : Int) = 0) = False := by simp; omega
          have hq0' : (q2 = 0) = False := by simp; omega
          have hq00 : 0 < q2 := by omega
          have hrb : r2 < q2 := by rw [← hR2]; exact Nat.mod_lt _ (by omega)
          have w2' : IntKind.i64.wrap (r2 : Int) = (r2 : Int) := by rw [IntKind.wrap_i64]; omega
          go_cut [110] (fun t wc => ∃ W7, W7 = wc ∧ t = .bool (decide (r2 ≠ 0)) ∧ Hid (Quiet Y W7))
          case first =>
            as_aux_lemma =>
              by_cases hr0 : r2 = 0
              · have t1 : ((r2 : Int) != 0) = false := by simp [hr0]
                have t2 : ((r2 : Int) = 0) = True := by simp [hr0]
                clear hR2 hQ2
                go_region
                all_goals
                  go_wp2_with fail
                  go_meet
                  exact ⟨_, rfl, by simp [hr0], (Quiet.refl Y).drew⟩
              · have t1 : ((r2 : Int) != 0) = true := by simp; omega
                clear hR2 hQ2
                go_region
                all_goals
                  go_wp2_with fail
                  go_meet
                  exact ⟨_, rfl, by simp [hr0], (Quiet.refl Y).drew⟩
          case rest =>
          obtain ⟨W7, rfl, rfl, HQ7⟩ := hcut
          have HB7 := hide ((unhide HBY).kept (unhide HQ7).kept (by simp))
          have HO7 := hide (own_kept (unhide HOY) (unhide HQ7).kept (by simp))
          have HK7 : Hid (Kept [b] W3 W7) := (unhide HKY).trans (unhide HQ7).kept (by simp)
          have hbW : b < W3.heap.size := (unhide HS3).blk.lt
          clear c0 c1 c2 HBY HOY HKY HQ7 hri hri2 hqi w2'
          have HCAST : Hid (((n : Int) + 1) = ((n + 1 : Nat) : Int)) := by unfold Hid; omega
          by_cases hr0 : r2 = 0
          case neg =>
            rw [decide_eq_true (by exact hr0)]
            rw [if_neg hr0] at HSTEP
            clear hR2 hQ2
            go_wp2_with fail
            go_ret
            refine ⟨rfl, .slice a6 (L + 1) c6, ⟨by rw [← unhide HCAST]; exact unhide HB7, by rw [unhide HSTEP, unhide HAL]; exact own_weak (unhide HO7)⟩, (Kept.mono (unhide HK3) (by simp)).trans (unhide HK7) (fun y hy => Or.inl hy), fun q hq => Nat.le_trans (unhide HK3).size ((unhide HO7).lt q hq).1⟩
          rw [if_pos hr0] at HSTEP
          rw [decide_eq_false (by simp [hr0])]
          clear hR2 hQ2 hr0 hrb hq0 hq0' hq00 hinv2
          generalize hBD : 2 * (n + 1) / inv = bd at *
          have hbdi : (2 * ((n : Int) + 1)) / (inv : Int) = (bd : Int) := by rw [← hBD]; push_cast; rfl
          have hbdb : bd ≤ 1099511627776 := by rw [← hBD]; exact Nat.le_trans (Nat.div_le_self _ _) (by omega)
          have HBD := hide hBD
          clear hBD
          have c0 := (unhide HB7).cell 0
          have c1 := (unhide HB7).cell 1
          have c2 := (unhide HB7).cell 2
          simp at c0 c1 c2
          have w3' : IntKind.i64.wrap ((L : Int) + 1 - 2) = (L : Int) - 1 := by rw [IntKind.wrap_i64]; omega
          go_upto_region 17 with fail
          have HBI := hide hbdi
          have hLn : L + 1 ≤ n + 1 := by have := (unhide HFIT).len; rw [unhide HAL] at this; exact this
          have HPS0 : Hid (PS W3 b inv n bd (addE gtC es (n, x)) W7 ((L : Int) - 1) (addE gtC es (n, x)) a6 (L + 1) c6) := by
            refine ⟨unhide HB7, unhide HO7, unhide HK7, unhide HAL, unhide HFIT, ?_⟩
            have h := ps_begin (bd := bd) (all := addE gtC es (n, x)) (by intro h0; have := unhide HAL; rw [h0] at this; simp at this)
            rw [unhide HAL] at h
            rwa [show ((L + 1 : Nat) : Int) - 2 = (L : Int) - 1 by omega] at h
          clear c0 c1 c2 w3' HB7 HO7 HK7 hbdi
          go_loopw [8] (fun t8 wr => ∃ (I : Int) (row : List (En Wc)) (a' : Option Addr) (L' c' : Nat), t8 = .int .i64 I ∧ Hid (PS W3 b inv n bd (addE gtC es (n, x)) wr I row a' L' c')) (fun t8 _ => (intOf t8).toNat)
          case atStart => exact ⟨_, _, a6, L + 1, c6, rfl, HPS0⟩
          case round =>
          obtain ⟨I, row, a', L', c', rfl, HPS⟩ := hrel
          clear HPS0
          by_cases hI : 0 < I
          case neg =>
            have t1 : (0 < I) = False := eq_false hI
            have HEND := hide (ps_end hI (unhide HPS).st)
            go_wp2_with fail
            go_ret
            have hp := unhide HPS
            refine ⟨rfl, .slice a' L' c', ⟨by rw [← unhide HCAST]; exact hp.blk, by rw [unhide HSTEP, ← unhide HEND, hp.len]; exact own_weak hp.own⟩, (Kept.mono (unhide HK3) (by simp)).trans hp.kept (fun y hy => Or.inl hy), fun q hq => Nat.le_trans (unhide HK3).size (hp.own.lt q hq).1⟩
          obtain ⟨f, e, M, h, t, i, hIi, hiM, hrow, hpr⟩ : ∃ f e M h t, ∃ i : Nat, I = (i : Int) ∧ i = List.length M + 1 ∧ row = f :: (M.reverse ++ e :: h :: t) ∧ press bd (addE gtC es (n, x)) = f :: sweep bd (e :: M) (h :: t) := by
            rcases (unhide HPS).st with ⟨f, M, Hd, h1, h2, h3, h4⟩ | ⟨h1, _⟩
            · cases M with
              | nil => simp at h1; omega
              | cons e M =>
                cases Hd with
                | nil => exact absurd rfl h3
                | cons h t => exact ⟨f, e, M, h, t, M.length + 1, by rw [h1]; simp, rfl, by rw [h2]; simp, h4⟩
            · omega
          subst hIi
          have hei : row[i]? = some e := by rw [hrow, hiM]; simp
          have hhi : row[i + 1]? = some h := by rw [hrow, hiM]; simp
          have hlr := (unhide HPS).len
          have hiL : i + 2 ≤ L' := by rw [← hlr, hrow, hiM]; simp
          have hLb : L' ≤ n + 1 := by have := (unhide HPS).fit.len; rw [hlr] at this; exact this
          have hwe := (unhide HPS).fit.wd (List.mem_of_getElem? hei)
          have hwh := (unhide HPS).fit.wd (List.mem_of_getElem? hhi)
          obtain ⟨g, hga, e0, e1, e2, e3⟩ := own_at (unhide HPS).own hei
          obtain ⟨g', hga', y0, y1, y2, y3⟩ := own_at (unhide HPS).own hhi
          subst hga
          cases hga'
          have c0 := (unhide HPS).blk.cell 0
          have c1 := (unhide HPS).blk.cell 1
          have c2 := (unhide HPS).blk.cell 2
          simp at c0 c1 c2
          have HROW := hide hrow
          have HPR := hide hpr
          have HIM := hide hiM
          clear hei hhi hlr hrow hpr hiM
          obtain ⟨⟨ew, ec⟩, eg, ed⟩ := e
          obtain ⟨⟨hw, hc⟩, hg, hd⟩ := h
          simp only [En.wd] at e0 e1 e2 e3 y0 y1 y2 y3 hwe hwh
          have u1 : IntKind.i64.wrap ((i : Int) + 1) = (i : Int) + 1 := by rw [IntKind.wrap_i64]; omega
          have u2 : i + 1 < L' := by omega
          have u3 : (i : Int) + 1 < (L' : Int) := by omega
          have u4 : ((0 : Int) < (i : Int)) = True := by simp; omega
          have hgb : g < wr.heap.size := ((unhide HPS).own.lt g rfl).2
          have hbb : b < wr.heap.size := (unhide HPS).blk.lt
          go_upto_region 20 with fail
          refine world_at (R := fun X => PS W3 b inv n bd (addE gtC es (n, x)) X (i : Int) row (some ⟨g, 0, none⟩) L' c' ∧ Blk X wr.heap.size #[.int .i64 (hw : Int), .int .i64 hc, .int .i64 (hg : Int), .int .i64 (hd : Int)] 85 ∧ Kept [] wr X) ⟨(unhide HPS).keep ((Kept.refl [] wr).alloc _), Blk.new wr _ _, (Kept.refl [] wr).alloc _⟩ ?_
          rintro X ⟨hpx, hbx, hkx⟩
          replace e2 := (hkx.cell (p := ⟨g, i * 4 + 2, none⟩) hgb (by simp)).trans e2
          replace c0 := (hkx.cell (p := ⟨b, 0, none⟩) hbb (by simp)).trans c0
          replace c1 := (hkx.cell (p := ⟨b, 1, none⟩) hbb (by simp)).trans c1
          replace c2 := (hkx.cell (p := ⟨b, 2, none⟩) hbb (by simp)).trans c2
          clear e0 e1 e3 y0 y1 y2 y3
          have hxb : W3.heap.size ≤ wr.heap.size := (unhide HPS).kept.size
          generalize wr.heap.size = bx at *
          have HPX := hide hpx
          have HBX := hide hbx
          have z0 := hbx.cell 0
          have z1 := hbx.cell 1
          have z2 := hbx.cell 2
          have z3 := hbx.cell 3
          have fz := hbx.frozen
          simp at z0 z1 z2 z3
          clear hpx hbx hkx
          have p1 : IntKind.i64.wrap ((eg : Int) + (hg : Int)) = (eg : Int) + (hg : Int) := by rw [IntKind.wrap_i64]; omega
          have p2 : IntKind.i64.wrap ((eg : Int) + (hg : Int) + (hd : Int)) = (eg : Int) + (hg : Int) + (hd : Int) := by rw [IntKind.wrap_i64]; omega
          have p3 : IntKind.i64.wrap (2 * ((n : Int) + 1)) = 2 * ((n : Int) + 1) := by rw [IntKind.wrap_i64]; omega
          have p4 : (2 * ((n : Int) + 1)) / (inv : Int) = (bd : Int) := unhide HBI
          have p5 : (2 * ((n : Int) + 1)).tdiv (inv : Int) = (bd : Int) := by rw [Int.tdiv_eq_ediv_of_nonneg (by omega)]; exact p4
          have p6 : IntKind.i64.wrap (bd : Int) = (bd : Int) := by rw [IntKind.wrap_i64]; omega
          have p7 : ((inv : Int) = 0) = False := by simp; omega
          have p8 : (inv = 0) = False := by simp; omega
          have p9 : 0 < inv := by omega
          have p10 : i < L' := by omega
          have p11 : (i : Int) < (L' : Int) := by omega
          go_cut [153] (fun t wc => ∃ Z, Z = wc ∧ t = .bool (decide (bd < eg + hg + hd)) ∧ Hid (Quiet X Z))
          case first =>
            as_aux_lemma =>
              by_cases hgt : bd < eg + hg + hd
              · have t1 : ((bd : Int) < (eg : Int) + (hg : Int) + (hd : Int)) = True := by simp; omega
                go_region
                all_goals
                  go_wp2_with fail
                  go_meet
                  exact ⟨_, rfl, by simp [hgt], (Quiet.refl X).drew⟩
              · have t1 : ((bd : Int) < (eg : Int) + (hg : Int) + (hd : Int)) = False := by simp; omega
                go_region
                all_goals
                  go_wp2_with fail
                  go_meet
                  exact ⟨_, rfl, by simp [hgt], (Quiet.refl X).drew⟩
          case rest =>
          obtain ⟨Z, rfl, rfl, HQZ⟩ := hcut
          have HPZ := hide ((unhide HPX).keep (unhide HQZ).kept)
          have HBZ := hide ((unhide HBX).kept (unhide HQZ).kept (by simp))
          by_cases hgt : bd < eg + hg + hd
          · rw [decide_eq_true hgt]
            have w5 : IntKind.i64.wrap ((i : Int) - 1) = (i : Int) - 1 := by rw [IntKind.wrap_i64]; omega
            go_wp2_with fail
            refine ⟨⟨(i : Int) - 1, row, some ⟨g, 0, none⟩, L', c', rfl, ?_⟩, by simp [intOf]; omega⟩
            have hp := unhide HPZ
            refine ⟨hp.blk, hp.own, hp.kept, hp.len, hp.fit, Or.inl ⟨f, M, ⟨(ew, ec), eg, ed⟩ :: ⟨(hw, hc), hg, hd⟩ :: t, by rw [unhide HIM]; simp, unhide HROW, by simp, ?_⟩⟩
            rw [unhide HPR, sweep_stay M t (by simp only [En.wd]; omega)]
          rw [decide_eq_false hgt]
          have hqz := unhide HQZ
          replace e2 := (hqz.cell ⟨g, i * 4 + 2, none⟩).trans e2
          replace c0 := (hqz.cell ⟨b, 0, none⟩).trans c0
          replace c1 := (hqz.cell ⟨b, 1, none⟩).trans c1
          replace c2 := (hqz.cell ⟨b, 2, none⟩).trans c2
          replace z2 := (hqz.cell ⟨bx, 2, none⟩).trans z2
          have fz2 := (unhide HBZ).frozen 2
          clear hqz z0 z1 z3 fz
          have q1 : IntKind.i64.wrap ((hg : Int) + (eg : Int)) = (hg : Int) + (eg : Int) := by rw [IntKind.wrap_i64]; omega
          go_upto_region 21 with fail
          go_cut [] (fun wc => ∃ U, U = wc ∧ Hid (PS W3 b inv n bd (addE gtC es (n, x)) U (i : Int) row (some ⟨g, 0, none⟩) L' c') ∧ Hid (Blk U bx #[.int .i64 (hw : Int), .int .i64 hc, .int .i64 ((hg : Int) + (eg : Int)), .int .i64 (hd : Int)] 85))
          case first =>
            as_aux_lemma =>
              go_region
              all_goals
                go_wp2_with fail
                go_meet
                exact ⟨_, rfl, PS.keepX (unhide HPZ) (((Kept.refl [bx] Z).setCell (p := ⟨bx, 2, none⟩) (Or.inl (by simp)) _).drew) hbb (fun q hq => by simp [Value.ownBlock] at hq; omega) hxb, (unhide HBZ).set 2 _⟩
          case rest =>
          obtain ⟨U, rfl, HPU, HBU⟩ := hcut
          clear e2 c0 c1 c2 z2 fz2 HPZ HBZ HPX HBX HQZ
          have c2 := (unhide HPU).blk.cell 2
          simp at c2
          have HIL : Hid ((row.take i).length = i) := by unfold Hid; have := (unhide HPU).len; simp; omega
          have hcL : L' ≤ c' := by
            rcases (unhide HPU).own.2 with ⟨h1, _⟩ | ⟨g1, cap1, cur1, hv1, _, _, hc1, _⟩
            · cases h1
            · cases hv1; exact hc1
          have hic : i ≤ c' := by omega
          go_upto_region 23 with fail
          go_cut [10] (fun t wc => ∃ V, V = wc ∧ ∃ a c, t = .slice a i c ∧ Hid (V.ownsRow U.heap.size 85 4 (.slice a i c) i (flatR (row.take i))) ∧ Hid (Kept [] U V))
          case first =>
            as_aux_lemma =>
              go_wp2_with (first | (at_builtin; refine wpList_app (w0 := U) (F := []) _ rfl _ _ rfl (xs := []) (ys := row.take i) rfl (hide (Kept.refl _ _)) (hide (World.ownsRow_nil _ _ _ _)) (hide rfl) rfl (hide (reads_take (unhide HPU).len (unhide HPU).own i (by omega))) i (hide (by rw [unhide HIL]; omega)) (hide (by omega)) ?_; intro va' vc' w' h1 h2 h3))
              go_meet
              exact ⟨_, rfl, _, _, rfl, by simpa using h1, h2⟩
          case rest =>
          obtain ⟨V, rfl, ra, rc, rfl, HRV, HKV⟩ := hcut
          have HBV := hide ((unhide HBU).kept (unhide HKV) (by simp))
          have z0 := (unhide HBV).cell 0
          have z1 := (unhide HBV).cell 1
          have z2 := (unhide HBV).cell 2
          have z3 := (unhide HBV).cell 3
          simp at z0 z1 z2 z3
          clear c2
          go_upto_region 24 with fail
          go_cut [10] (fun t wc => ∃ T, T = wc ∧ ∃ a c, t = .slice a (i + 1) c ∧ Hid (T.ownsRow U.heap.size 85 4 (.slice a (i + 1) c) (i + 1) (flatR (row.take i ++ [⟨(hw, hc), hg + eg, hd⟩]))) ∧ Hid (Kept [] U T))
          case first =>
            as_aux_lemma =>
              have HRO : Hid (Reads (V.alloc (.cells #[.int .i64 (hw : Int), .int .i64 hc, .int .i64 ((hg : Int) + (eg : Int)), .int .i64 (hd : Int)] 85)) (.slice (some ⟨V.heap.size, 0, none⟩) 1 1) [⟨(hw, hc), hg + eg, hd⟩]) := by
                have h := reads_one (a := hw) (c := hc) (g := hg + eg) (d := hd) (Blk.new V #[.int .i64 (hw : Int), .int .i64 hc, .int .i64 ((hg + eg : Nat) : Int), .int .i64 (hd : Int)] 85)
                rw [show ((hg + eg : Nat) : Int) = (hg : Int) + (eg : Int) by omega] at h
                exact h
              go_wp2_with (first | (at_builtin; refine wpList_app (w0 := U) (F := []) _ rfl _ _ rfl (xs := row.take i) (ys := [⟨(hw, hc), hg + eg, hd⟩]) rfl (hide ((unhide HKV).alloc _)) (hide (own_kept (unhide HRV) ((Kept.refl [] V).alloc _) (by simp))) HIL rfl HRO (i + 1) (hide rfl) (hide (by omega)) ?_; intro va' vc' w' h1 h2 h3))
              go_meet
              exact ⟨_, rfl, _, _, rfl, h1, h2⟩
          case rest =>
          obtain ⟨T, rfl, ta, tc, rfl, HRT, HKT⟩ := hcut
          clear z0 z1 z2 z3
          have c2 := ((unhide HPU).blk.kept (unhide HKT) (by simp)).cell 2
          simp at c2
          have HTL1 : Hid ((row.take i ++ [(⟨(hw, hc), hg + eg, hd⟩ : En Wc)]).length = i + 1) := by unfold Hid; rw [List.length_append, unhide HIL]; rfl
          have HDL : Hid ((row.drop (i + 2)).length = L' - (i + 2)) := by unfold Hid; rw [List.length_drop, (unhide HPU).len]
          have hbU : b < W3.heap.size := hbW
          have w5 : IntKind.i64.wrap ((i : Int) - 1) = (i : Int) - 1 := by rw [IntKind.wrap_i64]; omega
          have w6 : IntKind.i64.wrap ((i : Int) + 2) = (i : Int) + 2 := by rw [IntKind.wrap_i64]; omega
          have s3 : i + 2 ≤ L' := hiL
          have s3' : (i : Int) + 2 ≤ (L' : Int) := by omega
          have s4 : L' ≤ c' := hcL
          have HOT := hide (own_kept (unhide HPU).own (unhide HKT) (by simp))
          have HRD : Hid (∀ cp, L' - (i + 2) ≤ cp → Reads T (.slice (if c' = i + 2 then some ⟨g, 0, none⟩ else some ⟨g, (i + 2) * 4, none⟩) (L' - (i + 2)) cp) (row.drop (i + 2))) := by
            intro cp hcp
            by_cases hkL : i + 2 < L'
            · rw [if_neg (by omega)]
              exact reads_drop (unhide HPU).len (unhide HOT) (i + 2) hkL hcp
            · have hz : L' - (i + 2) = 0 := by omega
              have : row.drop (i + 2) = [] := List.eq_nil_of_length_eq_zero (by rw [unhide HDL]; exact hz)
              rw [this, hz]
              exact reads_none _ _
          go_wp2_with (first | (at_builtin; refine wpList_app (w0 := U) (F := []) _ rfl _ _ rfl (xs := row.take i ++ [⟨(hw, hc), hg + eg, hd⟩]) (ys := row.drop (i + 2)) rfl HKT HRT HTL1 rfl (hide (unhide HRD _ (by omega))) (L' - 1) (hide (by rw [unhide HDL]; omega)) (hide (by omega)) ?_; intro va' vc' w' h1 h2 h3; have HB6 := hide ((unhide HPU).blk.kept (unhide h2) (by simp)); have d2 := (unhide HB6).cell 2; have g2 := (unhide HB6).frozen 2; simp at d2))
          refine ⟨⟨(i : Int) - 1, _, va', L' - 1, vc', rfl, ps_next (unhide HPU) (unhide h1) (unhide h2) (unhide HROW) (unhide HIM) (unhide HPR) (by simp only [En.wd]; omega) hbU⟩, by simp [intOf]; omega⟩
end Go.Proofs.Ytgiifedljebclaa.ref
